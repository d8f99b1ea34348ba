/-
  Contracts of turnspitref09's hang.
-/
import Derived.Test.YtgjacmkedgbneaaTyC
namespace Go.Proofs.Ytgjacmkedgbneaa
open Go.RowKit Go.Sort Ky Wd Tn Tr

theorem Tb.storeR {w : World} {q : Nat} {x : Int} {v : Value} {ty : TypeId} (h : Tb w q x v ty) (y : Int) : Tb (w.setCell ⟨q, 0, none⟩ (.int .i64 y)) q y v ty := by
  unfold Tb at h ⊢
  simp only [World.setCell, Array.getElem?_modify, if_true, h]
  rfl
/-- A slice's block is another one. -/
def Off (q : Nat) (v : Value) (l : List N) : Prop := l ≠ [] → ∀ a n c, v = .slice (some a) n c → a.block ≠ q
def Clear (p q : Nat) (v : Value) (l : List N) : Prop := Off p v l ∧ Off q v l
theorem Nds.other2 {w : World} {v : Value} {l : List N} (h : Nds w v l) {q : Addr} (ho : Off q.block v l) (x : Value) : Nds (w.setCell q x) v l := by
  obtain ⟨a, cap, rfl, h1, h2, h3⟩ := h
  refine ⟨a, cap, rfl, h1, h2, fun hne => ?_⟩
  obtain ⟨b, off, rfl, h4⟩ := h3 hne
  have hb : b ≠ q.block := ho hne _ _ _ rfl
  refine ⟨b, off, rfl, fun i hi => ?_⟩
  have e : ∀ o, (w.setCell q x).cell? ⟨b, o, none⟩ = w.cell? ⟨b, o, none⟩ := fun o => by
    simp only [World.cell?, Below.heap_setCell _ _ _ _ hb]
  obtain ⟨m0, m1, m2, m3, m4, m5⟩ := h4 i hi
  exact ⟨(e _).trans m0, (e _).trans m1, (e _).trans m2, (e _).trans m3, (e _).trans m4, (e _).trans m5⟩
theorem Nds.offGe {w : World} {v : Value} {l : List N} (h : Nds w v l) {q : Nat} (hq : w.heap.size ≤ q) : Off q v l := by
  intro hne a n c e
  rcases h.parts with ⟨h0, -⟩ | ⟨-, nb, off, cap, rfl, -, hb, -⟩
  · exact absurd h0 hne
  · simp only [Value.slice.injEq, Option.some.injEq] at e
    rw [← e.1]
    show nb ≠ q
    omega
theorem Nds.off {w : World} {v : Value} {l : List N} (h : Nds w v l) : Off w.heap.size v l := h.offGe (Nat.le_refl _)
theorem Nds.clear {w : World} {v : Value} {l : List N} (h : Nds w v l) : Clear w.heap.size (w.heap.size + 1) v l := ⟨h.off, h.offGe (by omega)⟩
theorem Fresh.clear {B : Nat} {v : Value} {l : List N} (h : Fresh (B + 2) v) : Clear B (B + 1) v l := ⟨fun _ a n c e => by have := h a n c e; omega, fun _ a n c e => by have := h a n c e; omega⟩

set_option maxHeartbeats 2000000 in
set_option maxRecDepth 100000 in
theorem rhang_00 {W : World} {v : Value} {t : T} (hN : Nds W v t.ns) (s : Int) :
    Calls Try.prog 39 #[.agg #[.int .i64 t.root, v], .int .i64 (-1), .int .i64 s, .int .i64 (-1)] W (Rt W v ⟨-1, t.ns⟩) := by
  have HN := Lib.hid hN
  obtain ⟨a, cap, rfl, -, -⟩ := hN.len
  have HT := Lib.hid (Tb.new W t.root (.slice a t.ns.length cap) 24)
  have HT1 := Lib.hid (HT.out.below (Gr.alloc _ (.cells #[.int .i64 0, .slice none 0 0] 24)).below HT.out.lt)
  have HR1 := Lib.hid (Tb.new (W.alloc (.cells #[.int .i64 t.root, .slice a t.ns.length cap] 24)) 0 (.slice none 0 0) 24)
  rw [show (W.alloc (.cells #[.int .i64 t.root, .slice a t.ns.length cap] 24)).heap.size = W.heap.size + 1 by simp] at HR1
  have HB1 := Lib.hid (((Below.refl W.heap.size W).alloc (Nat.le_refl _) (.cells #[.int .i64 t.root, .slice a t.ns.length cap] 24)).alloc (by simp) (.cells #[.int .i64 0, .slice none 0 0] 24))
  have HS1 : Hid (((W.alloc (.cells #[.int .i64 t.root, .slice a t.ns.length cap] 24)).alloc (.cells #[.int .i64 0, .slice none 0 0] 24)).heap.size = W.heap.size + 2) := Lib.hid (by simp)
  clear hN HT
  go_enter Try.func39, Try.ntmps39
  go_upto_region 2 with fail
  generalize (W.alloc (.cells #[.int .i64 t.root, .slice a t.ns.length cap] 24)).alloc (.cells #[.int .i64 0, .slice none 0 0] 24) = w1 at HT1 HR1 HB1 HS1 ⊢
  obtain ⟨x0, x1, f0, f1⟩ := HT1.out.all
  have HT5 := Lib.hid (HT1.out.storeR (-1))
  have HR5 := Lib.hid (HR1.out.other (a := ⟨W.heap.size, 0, none⟩) (y := .int .i64 (-1)) (by show W.heap.size + 1 ≠ W.heap.size; omega))
  have HB5 := Lib.hid (HB1.out.setCell (p := ⟨W.heap.size, 0, none⟩) (Nat.le_refl _) (.int .i64 (-1)))
  have HL5 : Hid (W.heap.size + 2 ≤ (w1.setCell ⟨W.heap.size, 0, none⟩ (.int .i64 (-1))).heap.size) := Lib.hid HR5.out.lt
  have HN5 := Lib.hid (HN.out.below HB5.out)
  have HC5 : Hid (Clear W.heap.size (W.heap.size + 1) (.slice a t.ns.length cap) t.ns) := Lib.hid HN.out.clear
  have HD5 : Hid (Value.slice a t.ns.length cap = .slice a t.ns.length cap ∨ Fresh W.heap.size (.slice a t.ns.length cap)) := Lib.hid (.inl rfl)
  clear HR1 HT1 HB1 HS1
  go_upto_region 8 with fail
  clear x0 x1 f0 f1
  generalize w1.setCell ⟨W.heap.size, 0, none⟩ (.int .i64 (-1)) = w5 at HT5 HR5 HB5 HL5 HN5 ⊢
  obtain ⟨x0, x1, -, -⟩ := HT5.out.all
  obtain ⟨y0, y1, y2, y3⟩ := HR5.out.all
  have HS6 := Lib.hid (HR5.out.store (-1) (.slice a t.ns.length cap)).all
  have HB6 := Lib.hid ((HB5.out.setCell (p := ⟨W.heap.size + 1, 0, none⟩) (by show W.heap.size ≤ W.heap.size + 1; omega) (.int .i64 (-1))).setCell (p := ⟨W.heap.size + 1, 1, none⟩) (by show W.heap.size ≤ W.heap.size + 1; omega) (.slice a t.ns.length cap))
  have HN6 := Lib.hid ((HN5.out.other2 (q := ⟨W.heap.size + 1, 0, none⟩) HC5.out.2 (.int .i64 (-1))).other2 (q := ⟨W.heap.size + 1, 1, none⟩) HC5.out.2 (.slice a t.ns.length cap))
  clear HT5 HR5 HB5 HN5 HL5 HC5
  go_wp2
  obtain ⟨z0, z1, -, -⟩ := HS6.out
  exact bodyPost_ret (v := .agg #[.int .i64 (-1), (.slice a t.ns.length cap)]) (by simp [results, Try.results39, go_sem, z0, z1]) rfl ⟨_, rfl, HN6.out, HB6.out, .inl rfl⟩

set_option maxHeartbeats 2000000 in
set_option maxRecDepth 100000 in
theorem rhang_01 {W : World} {v : Value} {t : T} (hN : Nds W v t.ns) (hl : t.ns.length ≤ 1000) (s : Int) {x : Int} (hx : t.has x) :
    Calls Try.prog 39 #[.agg #[.int .i64 t.root, v], .int .i64 (-1), .int .i64 s, .int .i64 x] W (Rt W v ((⟨x, t.ns⟩ : T).put x ((t.nd x).setUp (-1)))) := by
  have HN := Lib.hid hN
  have hl5 := hl
  have HY : Hid ((⟨x, t.ns⟩ : T).has x) := Lib.hid hx
  obtain ⟨y, hy⟩ : ∃ y, x = y := ⟨_, rfl⟩
  obtain ⟨m, hm⟩ : ∃ m, t.nd x = m := ⟨_, rfl⟩
  rw [hm]
  obtain ⟨t9, h9⟩ : ∃ t9, (⟨x, t.ns⟩ : T).put x (m.setUp (-1)) = t9 := ⟨_, rfl⟩
  rw [h9]
  obtain ⟨j, rfl, hj⟩ := has_nat hx
  have HP9 := Lib.hid h9
  have HM : Hid (t.ns.getD j nE = m) := Lib.hid (by rw [← hm]; unfold T.nd; rw [Int.toNat_natCast])
  obtain ⟨a, cap, rfl, -, -⟩ := hN.len
  clear h9 hm hy
  have HT := Lib.hid (Tb.new W t.root (.slice a t.ns.length cap) 24)
  have HT1 := Lib.hid (HT.out.below (Gr.alloc _ (.cells #[.int .i64 0, .slice none 0 0] 24)).below HT.out.lt)
  have HR1 := Lib.hid (Tb.new (W.alloc (.cells #[.int .i64 t.root, .slice a t.ns.length cap] 24)) 0 (.slice none 0 0) 24)
  rw [show (W.alloc (.cells #[.int .i64 t.root, .slice a t.ns.length cap] 24)).heap.size = W.heap.size + 1 by simp] at HR1
  have HB1 := Lib.hid (((Below.refl W.heap.size W).alloc (Nat.le_refl _) (.cells #[.int .i64 t.root, .slice a t.ns.length cap] 24)).alloc (by simp) (.cells #[.int .i64 0, .slice none 0 0] 24))
  have HS1 : Hid (((W.alloc (.cells #[.int .i64 t.root, .slice a t.ns.length cap] 24)).alloc (.cells #[.int .i64 0, .slice none 0 0] 24)).heap.size = W.heap.size + 2) := Lib.hid (by simp)
  clear hN HT
  go_enter Try.func39, Try.ntmps39
  go_upto_region 2 with fail
  generalize (W.alloc (.cells #[.int .i64 t.root, .slice a t.ns.length cap] 24)).alloc (.cells #[.int .i64 0, .slice none 0 0] 24) = w1 at HT1 HR1 HB1 HS1 ⊢
  obtain ⟨x0, x1, f0, f1⟩ := HT1.out.all
  have HT5 := Lib.hid (HT1.out.storeR j)
  have HR5 := Lib.hid (HR1.out.other (a := ⟨W.heap.size, 0, none⟩) (y := .int .i64 j) (by show W.heap.size + 1 ≠ W.heap.size; omega))
  have HB5 := Lib.hid (HB1.out.setCell (p := ⟨W.heap.size, 0, none⟩) (Nat.le_refl _) (.int .i64 j))
  have HL5 : Hid (W.heap.size + 2 ≤ (w1.setCell ⟨W.heap.size, 0, none⟩ (.int .i64 j)).heap.size) := Lib.hid HR5.out.lt
  have HN5 := Lib.hid (HN.out.below HB5.out)
  have HC5 : Hid (Clear W.heap.size (W.heap.size + 1) (.slice a t.ns.length cap) t.ns) := Lib.hid HN.out.clear
  have HD5 : Hid (Value.slice a t.ns.length cap = .slice a t.ns.length cap ∨ Fresh W.heap.size (.slice a t.ns.length cap)) := Lib.hid (.inl rfl)
  clear HR1 HT1 HB1 HS1
  go_upto_region 8 with fail
  clear x0 x1 f0 f1
  generalize w1.setCell ⟨W.heap.size, 0, none⟩ (.int .i64 j) = w5 at HT5 HR5 HB5 HL5 HN5 ⊢
  obtain ⟨x0, x1, f0, f1⟩ := HT5.out.all
  obtain ⟨nb6, off6, cap6, he6, hc61, hc62, hnc6⟩ := HN5.out.at hj
  simp only [Value.slice.injEq] at he6
  obtain ⟨rfl, -, rfl⟩ := he6
  obtain ⟨m0, m1, m2, m3, m4, m5⟩ := hnc6
  rw [HM.out] at m0 m1 m2 m3 m4 m5
  have HVm : Hid (U m.v) := Lib.hid (by rw [← HM.out]; exact U_nd (t := (⟨j, t.ns⟩ : T)) HN5.out hj)
  have HNF := Lib.hid (Nb.fresh w5 m)
  have HS5 : Hid (w5.heap.size = w5.heap.size) := Lib.hid rfl
  unfold maxLen at hc62
  go_upto_region 10 with fail
  have HT7 := Lib.hid (HT5.out.below (Gr.alloc w5 (.cells #[.bool m.inn, .bool m.red, .int .u64 m.v, .int .i64 m.l, .int .i64 m.r, .int .i64 m.u] 57)).below HT5.out.lt)
  have HR7 := Lib.hid (HR5.out.below (Gr.alloc w5 (.cells #[.bool m.inn, .bool m.red, .int .u64 m.v, .int .i64 m.l, .int .i64 m.r, .int .i64 m.u] 57)).below HR5.out.lt)
  have HB7 := Lib.hid (HB5.out.alloc HB5.out.size (.cells #[.bool m.inn, .bool m.red, .int .u64 m.v, .int .i64 m.l, .int .i64 m.r, .int .i64 m.u] 57))
  have HN7 := Lib.hid (HN5.out.below (Gr.alloc w5 (.cells #[.bool m.inn, .bool m.red, .int .u64 m.v, .int .i64 m.l, .int .i64 m.r, .int .i64 m.u] 57)).below)
  have HO7 : Hid (Off w5.heap.size (.slice (some ⟨nb6, off6, none⟩) t.ns.length cap) t.ns) := Lib.hid HN5.out.off
  clear m0 m1 m2 m3 m4 m5 x0 x1 f0 f1 HT5 HR5 HB5 HN5 HC5 HD5
  generalize w5.alloc (.cells #[.bool m.inn, .bool m.red, .int .u64 m.v, .int .i64 m.l, .int .i64 m.r, .int .i64 m.u] 57) = w6 at HNF HT7 HR7 HB7 HN7 ⊢
  generalize w5.heap.size = q6 at HL5 HS5 HNF HO7 ⊢
  obtain ⟨-, -, -, -, -, n5⟩ := HNF.out.six
  have fr6 := HNF.out.frozen 5
  have HN8 := Lib.hid (HNF.out.fld (m.setUp (-1)) 5 (by omega) (.int .i64 (-1)) rfl)
  have HT8 := Lib.hid (HT7.out.other (a := ⟨q6, 5, none⟩) (y := .int .i64 (-1)) (by have := HL5.out; show W.heap.size ≠ q6; omega))
  have HR8 := Lib.hid (HR7.out.other (a := ⟨q6, 5, none⟩) (y := .int .i64 (-1)) (by have := HL5.out; show W.heap.size + 1 ≠ q6; omega))
  have HB8 := Lib.hid (HB7.out.setCell (p := ⟨q6, 5, none⟩) (by have := HL5.out; show W.heap.size ≤ q6; omega) (.int .i64 (-1)))
  have HM8 := Lib.hid (HN7.out.other2 (q := ⟨q6, 5, none⟩) HO7.out (.int .i64 (-1)))
  clear HNF HT7 HR7 HB7 HN7 HO7
  go_upto_region 11 with fail
  clear n5 fr6
  generalize w6.setCell ⟨q6, 5, none⟩ (.int .i64 (-1)) = w7 at HN8 HT8 HR8 HB8 HM8 ⊢
  obtain ⟨n0, n1, n2, n3, n4, n5⟩ := HN8.out.six
  obtain ⟨x0, x1, -, -⟩ := HT8.out.all
  have HPU := Lib.hid (put_rt (t := (⟨j, t.ns⟩ : T)) HM8.out hl5 HY.out (m.setUp (-1)) HVm.out)
  go_wp2_with fail
  refine HPU.out.mono ?_
  rintro e' w8 ⟨v8, rfl, hN4, hb4, hf4⟩
  rw [HP9.out] at hN4 ⊢
  obtain ⟨a9, c9, rfl, -, -⟩ := hN4.len
  have HL3 : Hid (W.heap.size + 2 ≤ w7.heap.size) := Lib.hid HR8.out.lt
  have HT4 := Lib.hid (HT8.out.below hb4 HT8.out.lt)
  have HR4 := Lib.hid (HR8.out.below hb4 HR8.out.lt)
  have HB4 := Lib.hid (HB8.out.trans (hb4.mono HB8.out.size))
  have HF4 : Hid (Fresh (W.heap.size + 2) (.slice a9 t9.ns.length c9)) := Lib.hid (hf4.mono HL3.out)
  have HN4 := Lib.hid hN4
  clear n0 n1 n2 n3 n4 n5 x0 x1 hN4 hb4 hf4 HPU HN8 HT8 HR8 HB8 HM8
  obtain ⟨y0, y1, y2, y3⟩ := HT4.out.all
  have HT9 := Lib.hid (HT4.out.store t9.root (.slice a9 t9.ns.length c9))
  have HR9 := Lib.hid ((HR4.out.other (a := ⟨W.heap.size, 0, none⟩) (y := .int .i64 t9.root) (by show W.heap.size + 1 ≠ W.heap.size; omega)).other (a := ⟨W.heap.size, 1, none⟩) (y := .slice a9 t9.ns.length c9) (by show W.heap.size + 1 ≠ W.heap.size; omega))
  have HB9 := Lib.hid ((HB4.out.setCell (p := ⟨W.heap.size, 0, none⟩) (Nat.le_refl _) (.int .i64 t9.root)).setCell (p := ⟨W.heap.size, 1, none⟩) (Nat.le_refl _) (.slice a9 t9.ns.length c9))
  have HN9 := Lib.hid ((HN4.out.other HF4.out (q := ⟨W.heap.size, 0, none⟩) (by show W.heap.size < W.heap.size + 2; omega) (.int .i64 t9.root)).other HF4.out (q := ⟨W.heap.size, 1, none⟩) (by show W.heap.size < W.heap.size + 2; omega) (.slice a9 t9.ns.length c9))
  have HL9 : Hid (W.heap.size + 2 ≤ ((w8.setCell ⟨W.heap.size, 0, none⟩ (.int .i64 t9.root)).setCell ⟨W.heap.size, 1, none⟩ (.slice a9 t9.ns.length c9)).heap.size) := Lib.hid HR9.out.lt
  have HC9 : Hid (Clear W.heap.size (W.heap.size + 1) (.slice a9 t9.ns.length c9) t9.ns) := Lib.hid HF4.out.clear
  have HD9 : Hid (Value.slice a9 t9.ns.length c9 = (.slice (some ⟨nb6, off6, none⟩) t.ns.length cap) ∨ Fresh W.heap.size (.slice a9 t9.ns.length c9)) := Lib.hid (.inr (HF4.out.mono (by omega)))
  clear HT4 HR4 HB4 HN4 HF4 HL3 HS5 HL5
  go_upto_region 12 with fail
  clear y0 y1 y2 y3
  generalize (w8.setCell ⟨W.heap.size, 0, none⟩ (.int .i64 t9.root)).setCell ⟨W.heap.size, 1, none⟩ (.slice a9 t9.ns.length c9) = w9 at HT9 HR9 HB9 HL9 HN9 ⊢
  obtain ⟨x0, x1, -, -⟩ := HT9.out.all
  obtain ⟨y0, y1, y2, y3⟩ := HR9.out.all
  have HS6 := Lib.hid (HR9.out.store (t9.root) (.slice a9 t9.ns.length c9)).all
  have HB6 := Lib.hid ((HB9.out.setCell (p := ⟨W.heap.size + 1, 0, none⟩) (by show W.heap.size ≤ W.heap.size + 1; omega) (.int .i64 (t9.root))).setCell (p := ⟨W.heap.size + 1, 1, none⟩) (by show W.heap.size ≤ W.heap.size + 1; omega) (.slice a9 t9.ns.length c9))
  have HN6 := Lib.hid ((HN9.out.other2 (q := ⟨W.heap.size + 1, 0, none⟩) HC9.out.2 (.int .i64 (t9.root))).other2 (q := ⟨W.heap.size + 1, 1, none⟩) HC9.out.2 (.slice a9 t9.ns.length c9))
  clear HT9 HR9 HB9 HN9 HL9 HC9
  go_wp2
  obtain ⟨z0, z1, -, -⟩ := HS6.out
  exact bodyPost_ret (v := .agg #[.int .i64 (t9.root), (.slice a9 t9.ns.length c9)]) (by simp [results, Try.results39, go_sem, z0, z1]) rfl ⟨_, rfl, HN6.out, HB6.out, HD9.out⟩

set_option maxHeartbeats 2000000 in
set_option maxRecDepth 100000 in
theorem rhang_l0 {W : World} {v : Value} {t : T} (hN : Nds W v t.ns) (hl : t.ns.length ≤ 1000) {x : Int} (hx : t.has x) :
    Calls Try.prog 39 #[.agg #[.int .i64 t.root, v], .int .i64 x, .int .i64 0, .int .i64 (-1)] W (Rt W v (t.put x ((t.nd x).setKid false (-1)))) := by
  have HN := Lib.hid hN
  have HX := Lib.hid hx
  obtain ⟨n, hn⟩ : ∃ n, t.nd x = n := ⟨_, rfl⟩
  rw [hn]
  obtain ⟨t5, h5⟩ : ∃ t5, t.put x (n.setKid false (-1)) = t5 := ⟨_, rfl⟩
  rw [h5]
  obtain ⟨k, rfl, hk⟩ := has_nat hx
  have HP5 := Lib.hid h5
  have HE : Hid (t.ns.getD k nE = n) := Lib.hid (by rw [← hn]; unfold T.nd; rw [Int.toNat_natCast])
  have HV : Hid (U n.v) := Lib.hid (by rw [← hn]; exact U_nd hN hk)
  obtain ⟨a, cap, rfl, -, -⟩ := hN.len
  clear h5 hn
  have HT := Lib.hid (Tb.new W t.root (.slice a t.ns.length cap) 24)
  have HT1 := Lib.hid (HT.out.below (Gr.alloc _ (.cells #[.int .i64 0, .slice none 0 0] 24)).below HT.out.lt)
  have HR1 := Lib.hid (Tb.new (W.alloc (.cells #[.int .i64 t.root, .slice a t.ns.length cap] 24)) 0 (.slice none 0 0) 24)
  rw [show (W.alloc (.cells #[.int .i64 t.root, .slice a t.ns.length cap] 24)).heap.size = W.heap.size + 1 by simp] at HR1
  have HB1 := Lib.hid (((Below.refl W.heap.size W).alloc (Nat.le_refl _) (.cells #[.int .i64 t.root, .slice a t.ns.length cap] 24)).alloc (by simp) (.cells #[.int .i64 0, .slice none 0 0] 24))
  have HS1 : Hid (((W.alloc (.cells #[.int .i64 t.root, .slice a t.ns.length cap] 24)).alloc (.cells #[.int .i64 0, .slice none 0 0] 24)).heap.size = W.heap.size + 2) := Lib.hid (by simp)
  clear hN HT
  go_enter Try.func39, Try.ntmps39
  go_upto_region 3 with fail
  generalize (W.alloc (.cells #[.int .i64 t.root, .slice a t.ns.length cap] 24)).alloc (.cells #[.int .i64 0, .slice none 0 0] 24) = w1 at HT1 HR1 HB1 HS1 ⊢
  obtain ⟨x0, x1, f0, f1⟩ := HT1.out.all
  obtain ⟨nb, off, cap', he, hc1, hc2, hnc⟩ := (HN.out.below HB1.out).at hk
  simp only [Value.slice.injEq] at he
  obtain ⟨rfl, -, rfl⟩ := he
  obtain ⟨m0, m1, m2, m3, m4, m5⟩ := hnc
  rw [HE.out] at m0 m1 m2 m3 m4 m5
  have HNF := Lib.hid (Nb.fresh w1 n)
  unfold maxLen at hc2
  clear HE
  go_upto_region 4 with fail
  have HT2 := Lib.hid (HT1.out.below (Gr.alloc w1 (.cells #[.bool n.inn, .bool n.red, .int .u64 n.v, .int .i64 n.l, .int .i64 n.r, .int .i64 n.u] 57)).below HT1.out.lt)
  have HR2 := Lib.hid (HR1.out.below (Gr.alloc w1 (.cells #[.bool n.inn, .bool n.red, .int .u64 n.v, .int .i64 n.l, .int .i64 n.r, .int .i64 n.u] 57)).below HR1.out.lt)
  have HB2 := Lib.hid (HB1.out.alloc HB1.out.size (.cells #[.bool n.inn, .bool n.red, .int .u64 n.v, .int .i64 n.l, .int .i64 n.r, .int .i64 n.u] 57))
  clear m0 m1 m2 m3 m4 m5 x0 x1 f0 f1 HT1 HR1 HB1
  generalize w1.alloc (.cells #[.bool n.inn, .bool n.red, .int .u64 n.v, .int .i64 n.l, .int .i64 n.r, .int .i64 n.u] 57) = w2 at HNF HT2 HR2 HB2 ⊢
  generalize w1.heap.size = q at HS1 HNF ⊢
  obtain ⟨-, -, -, n3, n4, -⟩ := HNF.out.six
  have fr := HNF.out.frozen 3
  have HN3 := Lib.hid (HNF.out.fld (n.setKid false (-1)) 3 (by omega) (.int .i64 (-1)) rfl)
  have HT3 := Lib.hid (HT2.out.other (a := ⟨q, 3, none⟩) (y := .int .i64 (-1)) (by have := HS1.out; show W.heap.size ≠ q; omega))
  have HR3 := Lib.hid (HR2.out.other (a := ⟨q, 3, none⟩) (y := .int .i64 (-1)) (by have := HS1.out; show W.heap.size + 1 ≠ q; omega))
  have HB3 := Lib.hid (HB2.out.setCell (p := ⟨q, 3, none⟩) (by have := HS1.out; show W.heap.size ≤ q; omega) (.int .i64 (-1)))
  clear HNF HT2 HR2 HB2
  go_upto_region 7 with fail
  clear n3 n4 fr
  generalize w2.setCell ⟨q, 3, none⟩ (.int .i64 (-1)) = w3 at HN3 HT3 HR3 HB3 ⊢
  obtain ⟨n0, n1, n2, n3, n4, n5⟩ := HN3.out.six
  obtain ⟨x0, x1, -, -⟩ := HT3.out.all
  have HPU := Lib.hid (put_rt (HN.out.below HB3.out) hl HX.out (n.setKid false (-1)) HV.out)
  go_wp2_with fail
  refine HPU.out.mono ?_
  rintro e' w4 ⟨v4, rfl, hN4, hb4, hf4⟩
  rw [HP5.out] at hN4 ⊢
  obtain ⟨a5, c5, rfl, -, -⟩ := hN4.len
  have HL3 : Hid (W.heap.size + 2 ≤ w3.heap.size) := Lib.hid HR3.out.lt
  have HT4 := Lib.hid (HT3.out.below hb4 HT3.out.lt)
  have HR4 := Lib.hid (HR3.out.below hb4 HR3.out.lt)
  have HB4 := Lib.hid (HB3.out.trans (hb4.mono HB3.out.size))
  have HF4 : Hid (Fresh (W.heap.size + 2) (.slice a5 t5.ns.length c5)) := Lib.hid (hf4.mono HL3.out)
  have HN4 := Lib.hid hN4
  clear n0 n1 n2 n3 n4 n5 x0 x1 hN4 hb4 hf4 HPU HN3 HT3 HR3 HB3
  obtain ⟨y0, y1, y2, y3⟩ := HT4.out.all
  have HT5 := Lib.hid (HT4.out.store t5.root (.slice a5 t5.ns.length c5))
  have HR5 := Lib.hid ((HR4.out.other (a := ⟨W.heap.size, 0, none⟩) (y := .int .i64 t5.root) (by show W.heap.size + 1 ≠ W.heap.size; omega)).other (a := ⟨W.heap.size, 1, none⟩) (y := .slice a5 t5.ns.length c5) (by show W.heap.size + 1 ≠ W.heap.size; omega))
  have HB5 := Lib.hid ((HB4.out.setCell (p := ⟨W.heap.size, 0, none⟩) (Nat.le_refl _) (.int .i64 t5.root)).setCell (p := ⟨W.heap.size, 1, none⟩) (Nat.le_refl _) (.slice a5 t5.ns.length c5))
  have HN5 := Lib.hid ((HN4.out.other HF4.out (q := ⟨W.heap.size, 0, none⟩) (by show W.heap.size < W.heap.size + 2; omega) (.int .i64 t5.root)).other HF4.out (q := ⟨W.heap.size, 1, none⟩) (by show W.heap.size < W.heap.size + 2; omega) (.slice a5 t5.ns.length c5))
  have HL5 : Hid (W.heap.size + 2 ≤ ((w4.setCell ⟨W.heap.size, 0, none⟩ (.int .i64 t5.root)).setCell ⟨W.heap.size, 1, none⟩ (.slice a5 t5.ns.length c5)).heap.size) := Lib.hid HR5.out.lt
  have HC5 : Hid (Clear W.heap.size (W.heap.size + 1) (.slice a5 t5.ns.length c5) t5.ns) := Lib.hid HF4.out.clear
  have HD5 : Hid (Value.slice a5 t5.ns.length c5 = .slice (some ⟨nb, off, none⟩) t.ns.length cap ∨ Fresh W.heap.size (.slice a5 t5.ns.length c5)) := Lib.hid (.inr (HF4.out.mono (by omega)))
  clear HT4 HR4 HB4 HN4 HF4 HL3 HS1
  go_upto_region 8 with fail
  clear y0 y1 y2 y3
  generalize (w4.setCell ⟨W.heap.size, 0, none⟩ (.int .i64 t5.root)).setCell ⟨W.heap.size, 1, none⟩ (.slice a5 t5.ns.length c5) = w5 at HT5 HR5 HB5 HL5 HN5 ⊢
  obtain ⟨x0, x1, -, -⟩ := HT5.out.all
  obtain ⟨y0, y1, y2, y3⟩ := HR5.out.all
  have HS6 := Lib.hid (HR5.out.store (t5.root) (.slice a5 t5.ns.length c5)).all
  have HB6 := Lib.hid ((HB5.out.setCell (p := ⟨W.heap.size + 1, 0, none⟩) (by show W.heap.size ≤ W.heap.size + 1; omega) (.int .i64 (t5.root))).setCell (p := ⟨W.heap.size + 1, 1, none⟩) (by show W.heap.size ≤ W.heap.size + 1; omega) (.slice a5 t5.ns.length c5))
  have HN6 := Lib.hid ((HN5.out.other2 (q := ⟨W.heap.size + 1, 0, none⟩) HC5.out.2 (.int .i64 (t5.root))).other2 (q := ⟨W.heap.size + 1, 1, none⟩) HC5.out.2 (.slice a5 t5.ns.length c5))
  clear HT5 HR5 HB5 HN5 HL5 HC5
  go_wp2
  obtain ⟨z0, z1, -, -⟩ := HS6.out
  exact bodyPost_ret (v := .agg #[.int .i64 (t5.root), (.slice a5 t5.ns.length c5)]) (by simp [results, Try.results39, go_sem, z0, z1]) rfl ⟨_, rfl, HN6.out, HB6.out, HD5.out⟩

set_option maxHeartbeats 2000000 in
set_option maxRecDepth 100000 in
theorem rhang_r0 {W : World} {v : Value} {t : T} (hN : Nds W v t.ns) (hl : t.ns.length ≤ 1000) {x : Int} (hx : t.has x) :
    Calls Try.prog 39 #[.agg #[.int .i64 t.root, v], .int .i64 x, .int .i64 1, .int .i64 (-1)] W (Rt W v (t.put x ((t.nd x).setKid true (-1)))) := by
  have HN := Lib.hid hN
  have HX := Lib.hid hx
  obtain ⟨n, hn⟩ : ∃ n, t.nd x = n := ⟨_, rfl⟩
  rw [hn]
  obtain ⟨t5, h5⟩ : ∃ t5, t.put x (n.setKid true (-1)) = t5 := ⟨_, rfl⟩
  rw [h5]
  obtain ⟨k, rfl, hk⟩ := has_nat hx
  have HP5 := Lib.hid h5
  have HE : Hid (t.ns.getD k nE = n) := Lib.hid (by rw [← hn]; unfold T.nd; rw [Int.toNat_natCast])
  have HV : Hid (U n.v) := Lib.hid (by rw [← hn]; exact U_nd hN hk)
  obtain ⟨a, cap, rfl, -, -⟩ := hN.len
  clear h5 hn
  have HT := Lib.hid (Tb.new W t.root (.slice a t.ns.length cap) 24)
  have HT1 := Lib.hid (HT.out.below (Gr.alloc _ (.cells #[.int .i64 0, .slice none 0 0] 24)).below HT.out.lt)
  have HR1 := Lib.hid (Tb.new (W.alloc (.cells #[.int .i64 t.root, .slice a t.ns.length cap] 24)) 0 (.slice none 0 0) 24)
  rw [show (W.alloc (.cells #[.int .i64 t.root, .slice a t.ns.length cap] 24)).heap.size = W.heap.size + 1 by simp] at HR1
  have HB1 := Lib.hid (((Below.refl W.heap.size W).alloc (Nat.le_refl _) (.cells #[.int .i64 t.root, .slice a t.ns.length cap] 24)).alloc (by simp) (.cells #[.int .i64 0, .slice none 0 0] 24))
  have HS1 : Hid (((W.alloc (.cells #[.int .i64 t.root, .slice a t.ns.length cap] 24)).alloc (.cells #[.int .i64 0, .slice none 0 0] 24)).heap.size = W.heap.size + 2) := Lib.hid (by simp)
  clear hN HT
  go_enter Try.func39, Try.ntmps39
  go_upto_region 3 with fail
  generalize (W.alloc (.cells #[.int .i64 t.root, .slice a t.ns.length cap] 24)).alloc (.cells #[.int .i64 0, .slice none 0 0] 24) = w1 at HT1 HR1 HB1 HS1 ⊢
  obtain ⟨x0, x1, f0, f1⟩ := HT1.out.all
  obtain ⟨nb, off, cap', he, hc1, hc2, hnc⟩ := (HN.out.below HB1.out).at hk
  simp only [Value.slice.injEq] at he
  obtain ⟨rfl, -, rfl⟩ := he
  obtain ⟨m0, m1, m2, m3, m4, m5⟩ := hnc
  rw [HE.out] at m0 m1 m2 m3 m4 m5
  have HNF := Lib.hid (Nb.fresh w1 n)
  unfold maxLen at hc2
  clear HE
  go_upto_region 4 with fail
  have HT2 := Lib.hid (HT1.out.below (Gr.alloc w1 (.cells #[.bool n.inn, .bool n.red, .int .u64 n.v, .int .i64 n.l, .int .i64 n.r, .int .i64 n.u] 57)).below HT1.out.lt)
  have HR2 := Lib.hid (HR1.out.below (Gr.alloc w1 (.cells #[.bool n.inn, .bool n.red, .int .u64 n.v, .int .i64 n.l, .int .i64 n.r, .int .i64 n.u] 57)).below HR1.out.lt)
  have HB2 := Lib.hid (HB1.out.alloc HB1.out.size (.cells #[.bool n.inn, .bool n.red, .int .u64 n.v, .int .i64 n.l, .int .i64 n.r, .int .i64 n.u] 57))
  clear m0 m1 m2 m3 m4 m5 x0 x1 f0 f1 HT1 HR1 HB1
  generalize w1.alloc (.cells #[.bool n.inn, .bool n.red, .int .u64 n.v, .int .i64 n.l, .int .i64 n.r, .int .i64 n.u] 57) = w2 at HNF HT2 HR2 HB2 ⊢
  generalize w1.heap.size = q at HS1 HNF ⊢
  obtain ⟨-, -, -, n3, n4, -⟩ := HNF.out.six
  have fr := HNF.out.frozen 4
  have HN3 := Lib.hid (HNF.out.fld (n.setKid true (-1)) 4 (by omega) (.int .i64 (-1)) rfl)
  have HT3 := Lib.hid (HT2.out.other (a := ⟨q, 4, none⟩) (y := .int .i64 (-1)) (by have := HS1.out; show W.heap.size ≠ q; omega))
  have HR3 := Lib.hid (HR2.out.other (a := ⟨q, 4, none⟩) (y := .int .i64 (-1)) (by have := HS1.out; show W.heap.size + 1 ≠ q; omega))
  have HB3 := Lib.hid (HB2.out.setCell (p := ⟨q, 4, none⟩) (by have := HS1.out; show W.heap.size ≤ q; omega) (.int .i64 (-1)))
  clear HNF HT2 HR2 HB2
  go_upto_region 7 with fail
  clear n3 n4 fr
  generalize w2.setCell ⟨q, 4, none⟩ (.int .i64 (-1)) = w3 at HN3 HT3 HR3 HB3 ⊢
  obtain ⟨n0, n1, n2, n3, n4, n5⟩ := HN3.out.six
  obtain ⟨x0, x1, -, -⟩ := HT3.out.all
  have HPU := Lib.hid (put_rt (HN.out.below HB3.out) hl HX.out (n.setKid true (-1)) HV.out)
  go_wp2_with fail
  refine HPU.out.mono ?_
  rintro e' w4 ⟨v4, rfl, hN4, hb4, hf4⟩
  rw [HP5.out] at hN4 ⊢
  obtain ⟨a5, c5, rfl, -, -⟩ := hN4.len
  have HL3 : Hid (W.heap.size + 2 ≤ w3.heap.size) := Lib.hid HR3.out.lt
  have HT4 := Lib.hid (HT3.out.below hb4 HT3.out.lt)
  have HR4 := Lib.hid (HR3.out.below hb4 HR3.out.lt)
  have HB4 := Lib.hid (HB3.out.trans (hb4.mono HB3.out.size))
  have HF4 : Hid (Fresh (W.heap.size + 2) (.slice a5 t5.ns.length c5)) := Lib.hid (hf4.mono HL3.out)
  have HN4 := Lib.hid hN4
  clear n0 n1 n2 n3 n4 n5 x0 x1 hN4 hb4 hf4 HPU HN3 HT3 HR3 HB3
  obtain ⟨y0, y1, y2, y3⟩ := HT4.out.all
  have HT5 := Lib.hid (HT4.out.store t5.root (.slice a5 t5.ns.length c5))
  have HR5 := Lib.hid ((HR4.out.other (a := ⟨W.heap.size, 0, none⟩) (y := .int .i64 t5.root) (by show W.heap.size + 1 ≠ W.heap.size; omega)).other (a := ⟨W.heap.size, 1, none⟩) (y := .slice a5 t5.ns.length c5) (by show W.heap.size + 1 ≠ W.heap.size; omega))
  have HB5 := Lib.hid ((HB4.out.setCell (p := ⟨W.heap.size, 0, none⟩) (Nat.le_refl _) (.int .i64 t5.root)).setCell (p := ⟨W.heap.size, 1, none⟩) (Nat.le_refl _) (.slice a5 t5.ns.length c5))
  have HN5 := Lib.hid ((HN4.out.other HF4.out (q := ⟨W.heap.size, 0, none⟩) (by show W.heap.size < W.heap.size + 2; omega) (.int .i64 t5.root)).other HF4.out (q := ⟨W.heap.size, 1, none⟩) (by show W.heap.size < W.heap.size + 2; omega) (.slice a5 t5.ns.length c5))
  have HL5 : Hid (W.heap.size + 2 ≤ ((w4.setCell ⟨W.heap.size, 0, none⟩ (.int .i64 t5.root)).setCell ⟨W.heap.size, 1, none⟩ (.slice a5 t5.ns.length c5)).heap.size) := Lib.hid HR5.out.lt
  have HC5 : Hid (Clear W.heap.size (W.heap.size + 1) (.slice a5 t5.ns.length c5) t5.ns) := Lib.hid HF4.out.clear
  have HD5 : Hid (Value.slice a5 t5.ns.length c5 = .slice (some ⟨nb, off, none⟩) t.ns.length cap ∨ Fresh W.heap.size (.slice a5 t5.ns.length c5)) := Lib.hid (.inr (HF4.out.mono (by omega)))
  clear HT4 HR4 HB4 HN4 HF4 HL3 HS1
  go_upto_region 8 with fail
  clear y0 y1 y2 y3
  generalize (w4.setCell ⟨W.heap.size, 0, none⟩ (.int .i64 t5.root)).setCell ⟨W.heap.size, 1, none⟩ (.slice a5 t5.ns.length c5) = w5 at HT5 HR5 HB5 HL5 HN5 ⊢
  obtain ⟨x0, x1, -, -⟩ := HT5.out.all
  obtain ⟨y0, y1, y2, y3⟩ := HR5.out.all
  have HS6 := Lib.hid (HR5.out.store (t5.root) (.slice a5 t5.ns.length c5)).all
  have HB6 := Lib.hid ((HB5.out.setCell (p := ⟨W.heap.size + 1, 0, none⟩) (by show W.heap.size ≤ W.heap.size + 1; omega) (.int .i64 (t5.root))).setCell (p := ⟨W.heap.size + 1, 1, none⟩) (by show W.heap.size ≤ W.heap.size + 1; omega) (.slice a5 t5.ns.length c5))
  have HN6 := Lib.hid ((HN5.out.other2 (q := ⟨W.heap.size + 1, 0, none⟩) HC5.out.2 (.int .i64 (t5.root))).other2 (q := ⟨W.heap.size + 1, 1, none⟩) HC5.out.2 (.slice a5 t5.ns.length c5))
  clear HT5 HR5 HB5 HN5 HL5 HC5
  go_wp2
  obtain ⟨z0, z1, -, -⟩ := HS6.out
  exact bodyPost_ret (v := .agg #[.int .i64 (t5.root), (.slice a5 t5.ns.length c5)]) (by simp [results, Try.results39, go_sem, z0, z1]) rfl ⟨_, rfl, HN6.out, HB6.out, HD5.out⟩

set_option maxHeartbeats 2000000 in
set_option maxRecDepth 100000 in
theorem rhang_l1 {W : World} {v : Value} {t : T} (hN : Nds W v t.ns) (hl : t.ns.length ≤ 1000) {x z : Int} (hx : t.has x) (hz : t.has z) :
    Calls Try.prog 39 #[.agg #[.int .i64 t.root, v], .int .i64 x, .int .i64 0, .int .i64 z] W (Rt W v ((t.put x ((t.nd x).setKid false z)).put z (((t.put x ((t.nd x).setKid false z)).nd z).setUp x))) := by
  have HN := Lib.hid hN
  have HX := Lib.hid hx
  obtain ⟨n, hn⟩ : ∃ n, t.nd x = n := ⟨_, rfl⟩
  rw [hn]
  have HY : Hid ((t.put x (n.setKid false z)).has z) := Lib.hid ((has_len (put_len _ _ _)).2 hz)
  have hl5 : (t.put x (n.setKid false z)).ns.length ≤ 1000 := by rw [put_len]; exact hl
  obtain ⟨t5, h5⟩ : ∃ t5, t.put x (n.setKid false z) = t5 := ⟨_, rfl⟩
  rw [h5] at HY hl5 ⊢
  obtain ⟨m, hm⟩ : ∃ m, t5.nd z = m := ⟨_, rfl⟩
  rw [hm]
  obtain ⟨t9, h9⟩ : ∃ t9, t5.put z (m.setUp x) = t9 := ⟨_, rfl⟩
  rw [h9]
  obtain ⟨k, rfl, hk⟩ := has_nat hx
  obtain ⟨j, rfl, hj⟩ := has_nat HY.out
  have HP5 := Lib.hid h5
  have HP9 := Lib.hid h9
  have HE : Hid (t.ns.getD k nE = n) := Lib.hid (by rw [← hn]; unfold T.nd; rw [Int.toNat_natCast])
  have HM : Hid (t5.ns.getD j nE = m) := Lib.hid (by rw [← hm]; unfold T.nd; rw [Int.toNat_natCast])
  have HV : Hid (U n.v) := Lib.hid (by rw [← hn]; exact U_nd hN hk)
  obtain ⟨a, cap, rfl, -, -⟩ := hN.len
  clear h5 hn h9 hm
  have HT := Lib.hid (Tb.new W t.root (.slice a t.ns.length cap) 24)
  have HT1 := Lib.hid (HT.out.below (Gr.alloc _ (.cells #[.int .i64 0, .slice none 0 0] 24)).below HT.out.lt)
  have HR1 := Lib.hid (Tb.new (W.alloc (.cells #[.int .i64 t.root, .slice a t.ns.length cap] 24)) 0 (.slice none 0 0) 24)
  rw [show (W.alloc (.cells #[.int .i64 t.root, .slice a t.ns.length cap] 24)).heap.size = W.heap.size + 1 by simp] at HR1
  have HB1 := Lib.hid (((Below.refl W.heap.size W).alloc (Nat.le_refl _) (.cells #[.int .i64 t.root, .slice a t.ns.length cap] 24)).alloc (by simp) (.cells #[.int .i64 0, .slice none 0 0] 24))
  have HS1 : Hid (((W.alloc (.cells #[.int .i64 t.root, .slice a t.ns.length cap] 24)).alloc (.cells #[.int .i64 0, .slice none 0 0] 24)).heap.size = W.heap.size + 2) := Lib.hid (by simp)
  clear hN HT
  go_enter Try.func39, Try.ntmps39
  go_upto_region 3 with fail
  generalize (W.alloc (.cells #[.int .i64 t.root, .slice a t.ns.length cap] 24)).alloc (.cells #[.int .i64 0, .slice none 0 0] 24) = w1 at HT1 HR1 HB1 HS1 ⊢
  obtain ⟨x0, x1, f0, f1⟩ := HT1.out.all
  obtain ⟨nb, off, cap', he, hc1, hc2, hnc⟩ := (HN.out.below HB1.out).at hk
  simp only [Value.slice.injEq] at he
  obtain ⟨rfl, -, rfl⟩ := he
  obtain ⟨m0, m1, m2, m3, m4, m5⟩ := hnc
  rw [HE.out] at m0 m1 m2 m3 m4 m5
  have HNF := Lib.hid (Nb.fresh w1 n)
  unfold maxLen at hc2
  clear HE
  go_upto_region 4 with fail
  have HT2 := Lib.hid (HT1.out.below (Gr.alloc w1 (.cells #[.bool n.inn, .bool n.red, .int .u64 n.v, .int .i64 n.l, .int .i64 n.r, .int .i64 n.u] 57)).below HT1.out.lt)
  have HR2 := Lib.hid (HR1.out.below (Gr.alloc w1 (.cells #[.bool n.inn, .bool n.red, .int .u64 n.v, .int .i64 n.l, .int .i64 n.r, .int .i64 n.u] 57)).below HR1.out.lt)
  have HB2 := Lib.hid (HB1.out.alloc HB1.out.size (.cells #[.bool n.inn, .bool n.red, .int .u64 n.v, .int .i64 n.l, .int .i64 n.r, .int .i64 n.u] 57))
  clear m0 m1 m2 m3 m4 m5 x0 x1 f0 f1 HT1 HR1 HB1
  generalize w1.alloc (.cells #[.bool n.inn, .bool n.red, .int .u64 n.v, .int .i64 n.l, .int .i64 n.r, .int .i64 n.u] 57) = w2 at HNF HT2 HR2 HB2 ⊢
  generalize w1.heap.size = q at HS1 HNF ⊢
  obtain ⟨-, -, -, n3, n4, -⟩ := HNF.out.six
  have fr := HNF.out.frozen 3
  have HN3 := Lib.hid (HNF.out.fld (n.setKid false j) 3 (by omega) (.int .i64 j) rfl)
  have HT3 := Lib.hid (HT2.out.other (a := ⟨q, 3, none⟩) (y := .int .i64 j) (by have := HS1.out; show W.heap.size ≠ q; omega))
  have HR3 := Lib.hid (HR2.out.other (a := ⟨q, 3, none⟩) (y := .int .i64 j) (by have := HS1.out; show W.heap.size + 1 ≠ q; omega))
  have HB3 := Lib.hid (HB2.out.setCell (p := ⟨q, 3, none⟩) (by have := HS1.out; show W.heap.size ≤ q; omega) (.int .i64 j))
  clear HNF HT2 HR2 HB2
  go_upto_region 7 with fail
  clear n3 n4 fr
  generalize w2.setCell ⟨q, 3, none⟩ (.int .i64 j) = w3 at HN3 HT3 HR3 HB3 ⊢
  obtain ⟨n0, n1, n2, n3, n4, n5⟩ := HN3.out.six
  obtain ⟨x0, x1, -, -⟩ := HT3.out.all
  have HPU := Lib.hid (put_rt (HN.out.below HB3.out) hl HX.out (n.setKid false j) HV.out)
  go_wp2_with fail
  refine HPU.out.mono ?_
  rintro e' w4 ⟨v4, rfl, hN4, hb4, hf4⟩
  rw [HP5.out] at hN4 ⊢
  obtain ⟨a5, c5, rfl, -, -⟩ := hN4.len
  have HL3 : Hid (W.heap.size + 2 ≤ w3.heap.size) := Lib.hid HR3.out.lt
  have HT4 := Lib.hid (HT3.out.below hb4 HT3.out.lt)
  have HR4 := Lib.hid (HR3.out.below hb4 HR3.out.lt)
  have HB4 := Lib.hid (HB3.out.trans (hb4.mono HB3.out.size))
  have HF4 : Hid (Fresh (W.heap.size + 2) (.slice a5 t5.ns.length c5)) := Lib.hid (hf4.mono HL3.out)
  have HN4 := Lib.hid hN4
  clear n0 n1 n2 n3 n4 n5 x0 x1 hN4 hb4 hf4 HPU HN3 HT3 HR3 HB3
  obtain ⟨y0, y1, y2, y3⟩ := HT4.out.all
  have HT5 := Lib.hid (HT4.out.store t5.root (.slice a5 t5.ns.length c5))
  have HR5 := Lib.hid ((HR4.out.other (a := ⟨W.heap.size, 0, none⟩) (y := .int .i64 t5.root) (by show W.heap.size + 1 ≠ W.heap.size; omega)).other (a := ⟨W.heap.size, 1, none⟩) (y := .slice a5 t5.ns.length c5) (by show W.heap.size + 1 ≠ W.heap.size; omega))
  have HB5 := Lib.hid ((HB4.out.setCell (p := ⟨W.heap.size, 0, none⟩) (Nat.le_refl _) (.int .i64 t5.root)).setCell (p := ⟨W.heap.size, 1, none⟩) (Nat.le_refl _) (.slice a5 t5.ns.length c5))
  have HN5 := Lib.hid ((HN4.out.other HF4.out (q := ⟨W.heap.size, 0, none⟩) (by show W.heap.size < W.heap.size + 2; omega) (.int .i64 t5.root)).other HF4.out (q := ⟨W.heap.size, 1, none⟩) (by show W.heap.size < W.heap.size + 2; omega) (.slice a5 t5.ns.length c5))
  have HL5 : Hid (W.heap.size + 2 ≤ ((w4.setCell ⟨W.heap.size, 0, none⟩ (.int .i64 t5.root)).setCell ⟨W.heap.size, 1, none⟩ (.slice a5 t5.ns.length c5)).heap.size) := Lib.hid HR5.out.lt
  have HC5 : Hid (Clear W.heap.size (W.heap.size + 1) (.slice a5 t5.ns.length c5) t5.ns) := Lib.hid HF4.out.clear
  have HD5 : Hid (Value.slice a5 t5.ns.length c5 = .slice (some ⟨nb, off, none⟩) t.ns.length cap ∨ Fresh W.heap.size (.slice a5 t5.ns.length c5)) := Lib.hid (.inr (HF4.out.mono (by omega)))
  clear HT4 HR4 HB4 HN4 HF4 HL3 HS1
  go_upto_region 8 with fail
  clear y0 y1 y2 y3
  generalize (w4.setCell ⟨W.heap.size, 0, none⟩ (.int .i64 t5.root)).setCell ⟨W.heap.size, 1, none⟩ (.slice a5 t5.ns.length c5) = w5 at HT5 HR5 HB5 HL5 HN5 ⊢
  obtain ⟨x0, x1, f0, f1⟩ := HT5.out.all
  obtain ⟨nb6, off6, cap6, he6, hc61, hc62, hnc6⟩ := HN5.out.at hj
  simp only [Value.slice.injEq] at he6
  obtain ⟨rfl, -, rfl⟩ := he6
  obtain ⟨m0, m1, m2, m3, m4, m5⟩ := hnc6
  rw [HM.out] at m0 m1 m2 m3 m4 m5
  have HVm : Hid (U m.v) := Lib.hid (by rw [← HM.out]; exact U_nd (t := t5) HN5.out hj)
  have HNF := Lib.hid (Nb.fresh w5 m)
  have HS5 : Hid (w5.heap.size = w5.heap.size) := Lib.hid rfl
  unfold maxLen at hc62
  go_upto_region 10 with fail
  have HT7 := Lib.hid (HT5.out.below (Gr.alloc w5 (.cells #[.bool m.inn, .bool m.red, .int .u64 m.v, .int .i64 m.l, .int .i64 m.r, .int .i64 m.u] 57)).below HT5.out.lt)
  have HR7 := Lib.hid (HR5.out.below (Gr.alloc w5 (.cells #[.bool m.inn, .bool m.red, .int .u64 m.v, .int .i64 m.l, .int .i64 m.r, .int .i64 m.u] 57)).below HR5.out.lt)
  have HB7 := Lib.hid (HB5.out.alloc HB5.out.size (.cells #[.bool m.inn, .bool m.red, .int .u64 m.v, .int .i64 m.l, .int .i64 m.r, .int .i64 m.u] 57))
  have HN7 := Lib.hid (HN5.out.below (Gr.alloc w5 (.cells #[.bool m.inn, .bool m.red, .int .u64 m.v, .int .i64 m.l, .int .i64 m.r, .int .i64 m.u] 57)).below)
  have HO7 : Hid (Off w5.heap.size (.slice (some ⟨nb6, off6, none⟩) t5.ns.length c5) t5.ns) := Lib.hid HN5.out.off
  clear m0 m1 m2 m3 m4 m5 x0 x1 f0 f1 HT5 HR5 HB5 HN5 HC5 HD5
  generalize w5.alloc (.cells #[.bool m.inn, .bool m.red, .int .u64 m.v, .int .i64 m.l, .int .i64 m.r, .int .i64 m.u] 57) = w6 at HNF HT7 HR7 HB7 HN7 ⊢
  generalize w5.heap.size = q6 at HL5 HS5 HNF HO7 ⊢
  obtain ⟨-, -, -, -, -, n5⟩ := HNF.out.six
  have fr6 := HNF.out.frozen 5
  have HN8 := Lib.hid (HNF.out.fld (m.setUp (k)) 5 (by omega) (.int .i64 (k)) rfl)
  have HT8 := Lib.hid (HT7.out.other (a := ⟨q6, 5, none⟩) (y := .int .i64 (k)) (by have := HL5.out; show W.heap.size ≠ q6; omega))
  have HR8 := Lib.hid (HR7.out.other (a := ⟨q6, 5, none⟩) (y := .int .i64 (k)) (by have := HL5.out; show W.heap.size + 1 ≠ q6; omega))
  have HB8 := Lib.hid (HB7.out.setCell (p := ⟨q6, 5, none⟩) (by have := HL5.out; show W.heap.size ≤ q6; omega) (.int .i64 (k)))
  have HM8 := Lib.hid (HN7.out.other2 (q := ⟨q6, 5, none⟩) HO7.out (.int .i64 (k)))
  clear HNF HT7 HR7 HB7 HN7 HO7
  go_upto_region 11 with fail
  clear n5 fr6
  generalize w6.setCell ⟨q6, 5, none⟩ (.int .i64 (k)) = w7 at HN8 HT8 HR8 HB8 HM8 ⊢
  obtain ⟨n0, n1, n2, n3, n4, n5⟩ := HN8.out.six
  obtain ⟨x0, x1, -, -⟩ := HT8.out.all
  have HPU := Lib.hid (put_rt (t := t5) HM8.out hl5 HY.out (m.setUp (k)) HVm.out)
  go_wp2_with fail
  refine HPU.out.mono ?_
  rintro e' w8 ⟨v8, rfl, hN4, hb4, hf4⟩
  rw [HP9.out] at hN4 ⊢
  obtain ⟨a9, c9, rfl, -, -⟩ := hN4.len
  have HL3 : Hid (W.heap.size + 2 ≤ w7.heap.size) := Lib.hid HR8.out.lt
  have HT4 := Lib.hid (HT8.out.below hb4 HT8.out.lt)
  have HR4 := Lib.hid (HR8.out.below hb4 HR8.out.lt)
  have HB4 := Lib.hid (HB8.out.trans (hb4.mono HB8.out.size))
  have HF4 : Hid (Fresh (W.heap.size + 2) (.slice a9 t9.ns.length c9)) := Lib.hid (hf4.mono HL3.out)
  have HN4 := Lib.hid hN4
  clear n0 n1 n2 n3 n4 n5 x0 x1 hN4 hb4 hf4 HPU HN8 HT8 HR8 HB8 HM8
  obtain ⟨y0, y1, y2, y3⟩ := HT4.out.all
  have HT9 := Lib.hid (HT4.out.store t9.root (.slice a9 t9.ns.length c9))
  have HR9 := Lib.hid ((HR4.out.other (a := ⟨W.heap.size, 0, none⟩) (y := .int .i64 t9.root) (by show W.heap.size + 1 ≠ W.heap.size; omega)).other (a := ⟨W.heap.size, 1, none⟩) (y := .slice a9 t9.ns.length c9) (by show W.heap.size + 1 ≠ W.heap.size; omega))
  have HB9 := Lib.hid ((HB4.out.setCell (p := ⟨W.heap.size, 0, none⟩) (Nat.le_refl _) (.int .i64 t9.root)).setCell (p := ⟨W.heap.size, 1, none⟩) (Nat.le_refl _) (.slice a9 t9.ns.length c9))
  have HN9 := Lib.hid ((HN4.out.other HF4.out (q := ⟨W.heap.size, 0, none⟩) (by show W.heap.size < W.heap.size + 2; omega) (.int .i64 t9.root)).other HF4.out (q := ⟨W.heap.size, 1, none⟩) (by show W.heap.size < W.heap.size + 2; omega) (.slice a9 t9.ns.length c9))
  have HL9 : Hid (W.heap.size + 2 ≤ ((w8.setCell ⟨W.heap.size, 0, none⟩ (.int .i64 t9.root)).setCell ⟨W.heap.size, 1, none⟩ (.slice a9 t9.ns.length c9)).heap.size) := Lib.hid HR9.out.lt
  have HC9 : Hid (Clear W.heap.size (W.heap.size + 1) (.slice a9 t9.ns.length c9) t9.ns) := Lib.hid HF4.out.clear
  have HD9 : Hid (Value.slice a9 t9.ns.length c9 = (.slice (some ⟨nb, off, none⟩) t.ns.length cap) ∨ Fresh W.heap.size (.slice a9 t9.ns.length c9)) := Lib.hid (.inr (HF4.out.mono (by omega)))
  clear HT4 HR4 HB4 HN4 HF4 HL3 HS5 HL5
  go_upto_region 12 with fail
  clear y0 y1 y2 y3
  generalize (w8.setCell ⟨W.heap.size, 0, none⟩ (.int .i64 t9.root)).setCell ⟨W.heap.size, 1, none⟩ (.slice a9 t9.ns.length c9) = w9 at HT9 HR9 HB9 HL9 HN9 ⊢
  obtain ⟨x0, x1, -, -⟩ := HT9.out.all
  obtain ⟨y0, y1, y2, y3⟩ := HR9.out.all
  have HS6 := Lib.hid (HR9.out.store (t9.root) (.slice a9 t9.ns.length c9)).all
  have HB6 := Lib.hid ((HB9.out.setCell (p := ⟨W.heap.size + 1, 0, none⟩) (by show W.heap.size ≤ W.heap.size + 1; omega) (.int .i64 (t9.root))).setCell (p := ⟨W.heap.size + 1, 1, none⟩) (by show W.heap.size ≤ W.heap.size + 1; omega) (.slice a9 t9.ns.length c9))
  have HN6 := Lib.hid ((HN9.out.other2 (q := ⟨W.heap.size + 1, 0, none⟩) HC9.out.2 (.int .i64 (t9.root))).other2 (q := ⟨W.heap.size + 1, 1, none⟩) HC9.out.2 (.slice a9 t9.ns.length c9))
  clear HT9 HR9 HB9 HN9 HL9 HC9
  go_wp2
  obtain ⟨z0, z1, -, -⟩ := HS6.out
  exact bodyPost_ret (v := .agg #[.int .i64 (t9.root), (.slice a9 t9.ns.length c9)]) (by simp [results, Try.results39, go_sem, z0, z1]) rfl ⟨_, rfl, HN6.out, HB6.out, HD9.out⟩

set_option maxHeartbeats 2000000 in
set_option maxRecDepth 100000 in
theorem rhang_r1 {W : World} {v : Value} {t : T} (hN : Nds W v t.ns) (hl : t.ns.length ≤ 1000) {x z : Int} (hx : t.has x) (hz : t.has z) :
    Calls Try.prog 39 #[.agg #[.int .i64 t.root, v], .int .i64 x, .int .i64 1, .int .i64 z] W (Rt W v ((t.put x ((t.nd x).setKid true z)).put z (((t.put x ((t.nd x).setKid true z)).nd z).setUp x))) := by
  have HN := Lib.hid hN
  have HX := Lib.hid hx
  obtain ⟨n, hn⟩ : ∃ n, t.nd x = n := ⟨_, rfl⟩
  rw [hn]
  have HY : Hid ((t.put x (n.setKid true z)).has z) := Lib.hid ((has_len (put_len _ _ _)).2 hz)
  have hl5 : (t.put x (n.setKid true z)).ns.length ≤ 1000 := by rw [put_len]; exact hl
  obtain ⟨t5, h5⟩ : ∃ t5, t.put x (n.setKid true z) = t5 := ⟨_, rfl⟩
  rw [h5] at HY hl5 ⊢
  obtain ⟨m, hm⟩ : ∃ m, t5.nd z = m := ⟨_, rfl⟩
  rw [hm]
  obtain ⟨t9, h9⟩ : ∃ t9, t5.put z (m.setUp x) = t9 := ⟨_, rfl⟩
  rw [h9]
  obtain ⟨k, rfl, hk⟩ := has_nat hx
  obtain ⟨j, rfl, hj⟩ := has_nat HY.out
  have HP5 := Lib.hid h5
  have HP9 := Lib.hid h9
  have HE : Hid (t.ns.getD k nE = n) := Lib.hid (by rw [← hn]; unfold T.nd; rw [Int.toNat_natCast])
  have HM : Hid (t5.ns.getD j nE = m) := Lib.hid (by rw [← hm]; unfold T.nd; rw [Int.toNat_natCast])
  have HV : Hid (U n.v) := Lib.hid (by rw [← hn]; exact U_nd hN hk)
  obtain ⟨a, cap, rfl, -, -⟩ := hN.len
  clear h5 hn h9 hm
  have HT := Lib.hid (Tb.new W t.root (.slice a t.ns.length cap) 24)
  have HT1 := Lib.hid (HT.out.below (Gr.alloc _ (.cells #[.int .i64 0, .slice none 0 0] 24)).below HT.out.lt)
  have HR1 := Lib.hid (Tb.new (W.alloc (.cells #[.int .i64 t.root, .slice a t.ns.length cap] 24)) 0 (.slice none 0 0) 24)
  rw [show (W.alloc (.cells #[.int .i64 t.root, .slice a t.ns.length cap] 24)).heap.size = W.heap.size + 1 by simp] at HR1
  have HB1 := Lib.hid (((Below.refl W.heap.size W).alloc (Nat.le_refl _) (.cells #[.int .i64 t.root, .slice a t.ns.length cap] 24)).alloc (by simp) (.cells #[.int .i64 0, .slice none 0 0] 24))
  have HS1 : Hid (((W.alloc (.cells #[.int .i64 t.root, .slice a t.ns.length cap] 24)).alloc (.cells #[.int .i64 0, .slice none 0 0] 24)).heap.size = W.heap.size + 2) := Lib.hid (by simp)
  clear hN HT
  go_enter Try.func39, Try.ntmps39
  go_upto_region 3 with fail
  generalize (W.alloc (.cells #[.int .i64 t.root, .slice a t.ns.length cap] 24)).alloc (.cells #[.int .i64 0, .slice none 0 0] 24) = w1 at HT1 HR1 HB1 HS1 ⊢
  obtain ⟨x0, x1, f0, f1⟩ := HT1.out.all
  obtain ⟨nb, off, cap', he, hc1, hc2, hnc⟩ := (HN.out.below HB1.out).at hk
  simp only [Value.slice.injEq] at he
  obtain ⟨rfl, -, rfl⟩ := he
  obtain ⟨m0, m1, m2, m3, m4, m5⟩ := hnc
  rw [HE.out] at m0 m1 m2 m3 m4 m5
  have HNF := Lib.hid (Nb.fresh w1 n)
  unfold maxLen at hc2
  clear HE
  go_upto_region 4 with fail
  have HT2 := Lib.hid (HT1.out.below (Gr.alloc w1 (.cells #[.bool n.inn, .bool n.red, .int .u64 n.v, .int .i64 n.l, .int .i64 n.r, .int .i64 n.u] 57)).below HT1.out.lt)
  have HR2 := Lib.hid (HR1.out.below (Gr.alloc w1 (.cells #[.bool n.inn, .bool n.red, .int .u64 n.v, .int .i64 n.l, .int .i64 n.r, .int .i64 n.u] 57)).below HR1.out.lt)
  have HB2 := Lib.hid (HB1.out.alloc HB1.out.size (.cells #[.bool n.inn, .bool n.red, .int .u64 n.v, .int .i64 n.l, .int .i64 n.r, .int .i64 n.u] 57))
  clear m0 m1 m2 m3 m4 m5 x0 x1 f0 f1 HT1 HR1 HB1
  generalize w1.alloc (.cells #[.bool n.inn, .bool n.red, .int .u64 n.v, .int .i64 n.l, .int .i64 n.r, .int .i64 n.u] 57) = w2 at HNF HT2 HR2 HB2 ⊢
  generalize w1.heap.size = q at HS1 HNF ⊢
  obtain ⟨-, -, -, n3, n4, -⟩ := HNF.out.six
  have fr := HNF.out.frozen 4
  have HN3 := Lib.hid (HNF.out.fld (n.setKid true j) 4 (by omega) (.int .i64 j) rfl)
  have HT3 := Lib.hid (HT2.out.other (a := ⟨q, 4, none⟩) (y := .int .i64 j) (by have := HS1.out; show W.heap.size ≠ q; omega))
  have HR3 := Lib.hid (HR2.out.other (a := ⟨q, 4, none⟩) (y := .int .i64 j) (by have := HS1.out; show W.heap.size + 1 ≠ q; omega))
  have HB3 := Lib.hid (HB2.out.setCell (p := ⟨q, 4, none⟩) (by have := HS1.out; show W.heap.size ≤ q; omega) (.int .i64 j))
  clear HNF HT2 HR2 HB2
  go_upto_region 7 with fail
  clear n3 n4 fr
  generalize w2.setCell ⟨q, 4, none⟩ (.int .i64 j) = w3 at HN3 HT3 HR3 HB3 ⊢
  obtain ⟨n0, n1, n2, n3, n4, n5⟩ := HN3.out.six
  obtain ⟨x0, x1, -, -⟩ := HT3.out.all
  have HPU := Lib.hid (put_rt (HN.out.below HB3.out) hl HX.out (n.setKid true j) HV.out)
  go_wp2_with fail
  refine HPU.out.mono ?_
  rintro e' w4 ⟨v4, rfl, hN4, hb4, hf4⟩
  rw [HP5.out] at hN4 ⊢
  obtain ⟨a5, c5, rfl, -, -⟩ := hN4.len
  have HL3 : Hid (W.heap.size + 2 ≤ w3.heap.size) := Lib.hid HR3.out.lt
  have HT4 := Lib.hid (HT3.out.below hb4 HT3.out.lt)
  have HR4 := Lib.hid (HR3.out.below hb4 HR3.out.lt)
  have HB4 := Lib.hid (HB3.out.trans (hb4.mono HB3.out.size))
  have HF4 : Hid (Fresh (W.heap.size + 2) (.slice a5 t5.ns.length c5)) := Lib.hid (hf4.mono HL3.out)
  have HN4 := Lib.hid hN4
  clear n0 n1 n2 n3 n4 n5 x0 x1 hN4 hb4 hf4 HPU HN3 HT3 HR3 HB3
  obtain ⟨y0, y1, y2, y3⟩ := HT4.out.all
  have HT5 := Lib.hid (HT4.out.store t5.root (.slice a5 t5.ns.length c5))
  have HR5 := Lib.hid ((HR4.out.other (a := ⟨W.heap.size, 0, none⟩) (y := .int .i64 t5.root) (by show W.heap.size + 1 ≠ W.heap.size; omega)).other (a := ⟨W.heap.size, 1, none⟩) (y := .slice a5 t5.ns.length c5) (by show W.heap.size + 1 ≠ W.heap.size; omega))
  have HB5 := Lib.hid ((HB4.out.setCell (p := ⟨W.heap.size, 0, none⟩) (Nat.le_refl _) (.int .i64 t5.root)).setCell (p := ⟨W.heap.size, 1, none⟩) (Nat.le_refl _) (.slice a5 t5.ns.length c5))
  have HN5 := Lib.hid ((HN4.out.other HF4.out (q := ⟨W.heap.size, 0, none⟩) (by show W.heap.size < W.heap.size + 2; omega) (.int .i64 t5.root)).other HF4.out (q := ⟨W.heap.size, 1, none⟩) (by show W.heap.size < W.heap.size + 2; omega) (.slice a5 t5.ns.length c5))
  have HL5 : Hid (W.heap.size + 2 ≤ ((w4.setCell ⟨W.heap.size, 0, none⟩ (.int .i64 t5.root)).setCell ⟨W.heap.size, 1, none⟩ (.slice a5 t5.ns.length c5)).heap.size) := Lib.hid HR5.out.lt
  have HC5 : Hid (Clear W.heap.size (W.heap.size + 1) (.slice a5 t5.ns.length c5) t5.ns) := Lib.hid HF4.out.clear
  have HD5 : Hid (Value.slice a5 t5.ns.length c5 = .slice (some ⟨nb, off, none⟩) t.ns.length cap ∨ Fresh W.heap.size (.slice a5 t5.ns.length c5)) := Lib.hid (.inr (HF4.out.mono (by omega)))
  clear HT4 HR4 HB4 HN4 HF4 HL3 HS1
  go_upto_region 8 with fail
  clear y0 y1 y2 y3
  generalize (w4.setCell ⟨W.heap.size, 0, none⟩ (.int .i64 t5.root)).setCell ⟨W.heap.size, 1, none⟩ (.slice a5 t5.ns.length c5) = w5 at HT5 HR5 HB5 HL5 HN5 ⊢
  obtain ⟨x0, x1, f0, f1⟩ := HT5.out.all
  obtain ⟨nb6, off6, cap6, he6, hc61, hc62, hnc6⟩ := HN5.out.at hj
  simp only [Value.slice.injEq] at he6
  obtain ⟨rfl, -, rfl⟩ := he6
  obtain ⟨m0, m1, m2, m3, m4, m5⟩ := hnc6
  rw [HM.out] at m0 m1 m2 m3 m4 m5
  have HVm : Hid (U m.v) := Lib.hid (by rw [← HM.out]; exact U_nd (t := t5) HN5.out hj)
  have HNF := Lib.hid (Nb.fresh w5 m)
  have HS5 : Hid (w5.heap.size = w5.heap.size) := Lib.hid rfl
  unfold maxLen at hc62
  go_upto_region 10 with fail
  have HT7 := Lib.hid (HT5.out.below (Gr.alloc w5 (.cells #[.bool m.inn, .bool m.red, .int .u64 m.v, .int .i64 m.l, .int .i64 m.r, .int .i64 m.u] 57)).below HT5.out.lt)
  have HR7 := Lib.hid (HR5.out.below (Gr.alloc w5 (.cells #[.bool m.inn, .bool m.red, .int .u64 m.v, .int .i64 m.l, .int .i64 m.r, .int .i64 m.u] 57)).below HR5.out.lt)
  have HB7 := Lib.hid (HB5.out.alloc HB5.out.size (.cells #[.bool m.inn, .bool m.red, .int .u64 m.v, .int .i64 m.l, .int .i64 m.r, .int .i64 m.u] 57))
  have HN7 := Lib.hid (HN5.out.below (Gr.alloc w5 (.cells #[.bool m.inn, .bool m.red, .int .u64 m.v, .int .i64 m.l, .int .i64 m.r, .int .i64 m.u] 57)).below)
  have HO7 : Hid (Off w5.heap.size (.slice (some ⟨nb6, off6, none⟩) t5.ns.length c5) t5.ns) := Lib.hid HN5.out.off
  clear m0 m1 m2 m3 m4 m5 x0 x1 f0 f1 HT5 HR5 HB5 HN5 HC5 HD5
  generalize w5.alloc (.cells #[.bool m.inn, .bool m.red, .int .u64 m.v, .int .i64 m.l, .int .i64 m.r, .int .i64 m.u] 57) = w6 at HNF HT7 HR7 HB7 HN7 ⊢
  generalize w5.heap.size = q6 at HL5 HS5 HNF HO7 ⊢
  obtain ⟨-, -, -, -, -, n5⟩ := HNF.out.six
  have fr6 := HNF.out.frozen 5
  have HN8 := Lib.hid (HNF.out.fld (m.setUp (k)) 5 (by omega) (.int .i64 (k)) rfl)
  have HT8 := Lib.hid (HT7.out.other (a := ⟨q6, 5, none⟩) (y := .int .i64 (k)) (by have := HL5.out; show W.heap.size ≠ q6; omega))
  have HR8 := Lib.hid (HR7.out.other (a := ⟨q6, 5, none⟩) (y := .int .i64 (k)) (by have := HL5.out; show W.heap.size + 1 ≠ q6; omega))
  have HB8 := Lib.hid (HB7.out.setCell (p := ⟨q6, 5, none⟩) (by have := HL5.out; show W.heap.size ≤ q6; omega) (.int .i64 (k)))
  have HM8 := Lib.hid (HN7.out.other2 (q := ⟨q6, 5, none⟩) HO7.out (.int .i64 (k)))
  clear HNF HT7 HR7 HB7 HN7 HO7
  go_upto_region 11 with fail
  clear n5 fr6
  generalize w6.setCell ⟨q6, 5, none⟩ (.int .i64 (k)) = w7 at HN8 HT8 HR8 HB8 HM8 ⊢
  obtain ⟨n0, n1, n2, n3, n4, n5⟩ := HN8.out.six
  obtain ⟨x0, x1, -, -⟩ := HT8.out.all
  have HPU := Lib.hid (put_rt (t := t5) HM8.out hl5 HY.out (m.setUp (k)) HVm.out)
  go_wp2_with fail
  refine HPU.out.mono ?_
  rintro e' w8 ⟨v8, rfl, hN4, hb4, hf4⟩
  rw [HP9.out] at hN4 ⊢
  obtain ⟨a9, c9, rfl, -, -⟩ := hN4.len
  have HL3 : Hid (W.heap.size + 2 ≤ w7.heap.size) := Lib.hid HR8.out.lt
  have HT4 := Lib.hid (HT8.out.below hb4 HT8.out.lt)
  have HR4 := Lib.hid (HR8.out.below hb4 HR8.out.lt)
  have HB4 := Lib.hid (HB8.out.trans (hb4.mono HB8.out.size))
  have HF4 : Hid (Fresh (W.heap.size + 2) (.slice a9 t9.ns.length c9)) := Lib.hid (hf4.mono HL3.out)
  have HN4 := Lib.hid hN4
  clear n0 n1 n2 n3 n4 n5 x0 x1 hN4 hb4 hf4 HPU HN8 HT8 HR8 HB8 HM8
  obtain ⟨y0, y1, y2, y3⟩ := HT4.out.all
  have HT9 := Lib.hid (HT4.out.store t9.root (.slice a9 t9.ns.length c9))
  have HR9 := Lib.hid ((HR4.out.other (a := ⟨W.heap.size, 0, none⟩) (y := .int .i64 t9.root) (by show W.heap.size + 1 ≠ W.heap.size; omega)).other (a := ⟨W.heap.size, 1, none⟩) (y := .slice a9 t9.ns.length c9) (by show W.heap.size + 1 ≠ W.heap.size; omega))
  have HB9 := Lib.hid ((HB4.out.setCell (p := ⟨W.heap.size, 0, none⟩) (Nat.le_refl _) (.int .i64 t9.root)).setCell (p := ⟨W.heap.size, 1, none⟩) (Nat.le_refl _) (.slice a9 t9.ns.length c9))
  have HN9 := Lib.hid ((HN4.out.other HF4.out (q := ⟨W.heap.size, 0, none⟩) (by show W.heap.size < W.heap.size + 2; omega) (.int .i64 t9.root)).other HF4.out (q := ⟨W.heap.size, 1, none⟩) (by show W.heap.size < W.heap.size + 2; omega) (.slice a9 t9.ns.length c9))
  have HL9 : Hid (W.heap.size + 2 ≤ ((w8.setCell ⟨W.heap.size, 0, none⟩ (.int .i64 t9.root)).setCell ⟨W.heap.size, 1, none⟩ (.slice a9 t9.ns.length c9)).heap.size) := Lib.hid HR9.out.lt
  have HC9 : Hid (Clear W.heap.size (W.heap.size + 1) (.slice a9 t9.ns.length c9) t9.ns) := Lib.hid HF4.out.clear
  have HD9 : Hid (Value.slice a9 t9.ns.length c9 = (.slice (some ⟨nb, off, none⟩) t.ns.length cap) ∨ Fresh W.heap.size (.slice a9 t9.ns.length c9)) := Lib.hid (.inr (HF4.out.mono (by omega)))
  clear HT4 HR4 HB4 HN4 HF4 HL3 HS5 HL5
  go_upto_region 12 with fail
  clear y0 y1 y2 y3
  generalize (w8.setCell ⟨W.heap.size, 0, none⟩ (.int .i64 t9.root)).setCell ⟨W.heap.size, 1, none⟩ (.slice a9 t9.ns.length c9) = w9 at HT9 HR9 HB9 HL9 HN9 ⊢
  obtain ⟨x0, x1, -, -⟩ := HT9.out.all
  obtain ⟨y0, y1, y2, y3⟩ := HR9.out.all
  have HS6 := Lib.hid (HR9.out.store (t9.root) (.slice a9 t9.ns.length c9)).all
  have HB6 := Lib.hid ((HB9.out.setCell (p := ⟨W.heap.size + 1, 0, none⟩) (by show W.heap.size ≤ W.heap.size + 1; omega) (.int .i64 (t9.root))).setCell (p := ⟨W.heap.size + 1, 1, none⟩) (by show W.heap.size ≤ W.heap.size + 1; omega) (.slice a9 t9.ns.length c9))
  have HN6 := Lib.hid ((HN9.out.other2 (q := ⟨W.heap.size + 1, 0, none⟩) HC9.out.2 (.int .i64 (t9.root))).other2 (q := ⟨W.heap.size + 1, 1, none⟩) HC9.out.2 (.slice a9 t9.ns.length c9))
  clear HT9 HR9 HB9 HN9 HL9 HC9
  go_wp2
  obtain ⟨z0, z1, -, -⟩ := HS6.out
  exact bodyPost_ret (v := .agg #[.int .i64 (t9.root), (.slice a9 t9.ns.length c9)]) (by simp [results, Try.results39, go_sem, z0, z1]) rfl ⟨_, rfl, HN6.out, HB6.out, HD9.out⟩

theorem rhang_at {W : World} {v : Value} {t : T} (hN : Nds W v t.ns) (hl : t.ns.length ≤ 1000) {u : Int} (hu : t.ok u) (s : Bool) {y : Int} (hy : t.ok y) :
    Calls Try.prog 39 #[.agg #[.int .i64 t.root, v], .int .i64 u, .int .i64 (sI s), .int .i64 y] W (Rt W v (t.hang u s y)) := by
  unfold T.hang T.setKid T.setUp
  rcases hu with rfl | hu
  · rw [if_pos rfl]
    rcases hy with rfl | hy
    · rw [if_pos rfl]
      exact rhang_00 hN _
    · rw [if_neg (by have := hy.1; omega)]
      exact rhang_01 hN hl _ hy
  · have h1 : ¬ u = -1 := by have := hu.1; omega
    rw [if_neg h1]
    rcases hy with rfl | hy
    · rw [if_pos rfl]
      cases s with
      | false => exact rhang_l0 hN hl hu
      | true => exact rhang_r0 hN hl hu
    · rw [if_neg (by have := hy.1; omega)]
      cases s with
      | false => exact rhang_l1 hN hl hu hy
      | true => exact rhang_r1 hN hl hu hy
end Go.Proofs.Ytgjacmkedgbneaa
