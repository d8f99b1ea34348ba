/-
  What storing into a queue's box leaves as it was; contracts of queue's stopped, inserted, deleted, weighed.
  Contracts of queue's inserted, deleted and weighed.
  Contracts of queue's weighed and own.
-/
import Derived.Test.YtpmknpdnhfnfcaaGreatDoorQyA
import Derived.Test.YtpmknpdnhfnfcaaGreatDoorTwQ
import Derived.Laws.OwnMore
import Derived.Test.YtpmknpdnhfnfcaaGreatDoorQuR
import Derived.Deep.Onto
import Derived.Deep.AppendLies
import Derived.BigRegion
namespace Go.Proofs.YtpmknpdnhfnfcaaGreatDoor
open Go.RowKit Go.Sort Ky Wd Tn Tr Wg Qu

/-- The slice v does not lie in the block p. -/
def Aw (p : Nat) (v : Value) : Prop := ∀ a n c, v = .slice (some a) n c → a.block ≠ p
theorem cellAway {w : World} {p o b j : Nat} {x : Value} (h : b ≠ p) : (w.setCell ⟨p, o, none⟩ x).cell? ⟨b, j, none⟩ = w.cell? ⟨b, j, none⟩ := World.cell?_setCell_other _ _ _ _ (fun e => h (congrArg Addr.block e).symm)
theorem Nds.aw {w : World} {v : Value} {l : List N} (h : Nds w v l) {p : Nat} (ha : l ≠ [] → Aw p v) (o : Nat) (x : Value) : Nds (w.setCell ⟨p, o, none⟩ x) v l := by
  obtain ⟨a, cap, rfl, hm, hw, hc⟩ := h
  refine ⟨a, cap, rfl, hm, hw, fun hz => ?_⟩
  obtain ⟨b, off, rfl, hc2⟩ := hc hz
  have hne : b ≠ p := ha hz _ _ _ rfl
  refine ⟨b, off, rfl, fun i hi => ?_⟩
  have := hc2 i hi
  unfold Nc at this ⊢
  simpa only [cellAway hne] using this
theorem Ints.aw {k : IntKind} {w : World} {v : Value} {zs : List Int} (h : Ints k w v zs) {p : Nat} (ha : zs ≠ [] → Aw p v) (o : Nat) (x : Value) : Ints k (w.setCell ⟨p, o, none⟩ x) v zs := by
  obtain ⟨a, cap, rfl, hm, hw, hc⟩ := h
  refine ⟨a, cap, rfl, hm, hw, fun hz => ?_⟩
  obtain ⟨b, off, rfl, hc2⟩ := hc hz
  have hne : b ≠ p := ha hz _ _ _ rfl
  refine ⟨b, off, rfl, fun i hi => ?_⟩
  rw [cellAway hne]
  exact hc2 i hi
theorem Own.aw {k : IntKind} {w : World} {B : Nat} {e : TypeId} {v : Value} {zs : List Int} (h : Own k w B e v zs) {p : Nat} (hp : p < B) (o : Nat) (x : Value) : Own k (w.setCell ⟨p, o, none⟩ x) B e v zs := by
  refine World.ownsRow.kept (row := some p) h ⟨rfl, rfl, rfl, by simp, fun i _ hi => heap_setCell_other w ⟨p, o, none⟩ i x (fun e => hi (by simp [e]))⟩ ?_
  cases hv : v.ownBlock with
  | none => exact .inl rfl
  | some r => exact .inr (fun e => by have := h.lt r hv; simp only [Option.some.injEq] at e; omega)
/-- Nodes do not lie in a queue's box. -/
theorem Nds.off {w : World} {v : Value} {l : List N} (h : Nds w v l) {p : Nat} {q : Q} {a a' : Option Addr} {n c n' c' : Nat} (hb : Qb w p q (.slice a n c) (.slice a' n' c')) : l ≠ [] → Aw p v := by
  intro hz
  obtain ⟨ad, cap, rfl, hm, hw, hc⟩ := h
  obtain ⟨b, off, rfl, hc2⟩ := hc hz
  intro a1 n1 c1 e
  simp only [Value.slice.injEq, Option.some.injEq] at e
  rw [← e.1]
  rintro rfl
  have h0 := (hc2 0 (List.length_pos_iff.2 hz)).1
  have h' : w.heap[b]? = _ := hb
  simp only [World.cell?, h'] at h0
  rcases (show off + 0 * 6 = 0 ∨ off + 0 * 6 = 1 ∨ off + 0 * 6 = 2 ∨ off + 0 * 6 = 3 ∨ off + 0 * 6 = 4 ∨ off + 0 * 6 = 5 ∨ off + 0 * 6 = 6 ∨ 7 ≤ off + 0 * 6 by omega) with e | e | e | e | e | e | e | e
  all_goals first
    | (rw [e] at h0; simp at h0)
    | (rw [Array.getElem?_eq_none (by simpa using e)] at h0; cases h0)
section
variable {w : World} {p : Nat} {q : Q} {nv wv : Value}
theorem Qb.other (h : Qb w p q nv wv) {p' : Nat} (hne : p ≠ p') (o : Nat) (x : Value) : Qb (w.setCell ⟨p', o, none⟩ x) p q nv wv := (Below.heap_setCell _ _ _ _ hne).trans h
theorem Qb.putT (h : Qb w p q nv wv) (t : T) (nv' : Value) : Qb ((w.setCell ⟨p, 0, none⟩ (.int .i64 t.root)).setCell ⟨p, 1, none⟩ nv') p { q with t := t } nv' wv := by
  unfold Qb at h ⊢
  simp only [World.setCell, Array.getElem?_modify, if_true, h]
  rfl
theorem Qb.putN (h : Qb w p q nv wv) (nv' : Value) : Qb (w.setCell ⟨p, 1, none⟩ nv') p q nv' wv := by
  unfold Qb at h ⊢
  simp only [World.setCell, Array.getElem?_modify, if_true, h]
  rfl
theorem Qb.putW (h : Qb w p q nv wv) (wv' : Value) : Qb (w.setCell ⟨p, 6, none⟩ wv') p q nv wv' := by
  unfold Qb at h ⊢
  simp only [World.setCell, Array.getElem?_modify, if_true, h]
  rfl
theorem Qb.putC (h : Qb w p q nv wv) (x : Int) : Qb (w.setCell ⟨p, 2, none⟩ (.int .i64 x)) p { q with cur := x } nv wv := by
  unfold Qb at h ⊢
  simp only [World.setCell, Array.getElem?_modify, if_true, h]
  rfl
theorem Qb.putV (h : Qb w p q nv wv) (x : Int) : Qb (w.setCell ⟨p, 3, none⟩ (.int .u64 x)) p { q with v := x } nv wv := by
  unfold Qb at h ⊢
  simp only [World.setCell, Array.getElem?_modify, if_true, h]
  rfl
theorem Qb.putM (h : Qb w p q nv wv) (x : Int) : Qb (w.setCell ⟨p, 4, none⟩ (.int .u64 x)) p { q with mn := x } nv wv := by
  unfold Qb at h ⊢
  simp only [World.setCell, Array.getElem?_modify, if_true, h]
  rfl
theorem Qb.putL (h : Qb w p q nv wv) (x : Int) : Qb (w.setCell ⟨p, 5, none⟩ (.int .i64 x)) p { q with load := x } nv wv := by
  unfold Qb at h ⊢
  simp only [World.setCell, Array.getElem?_modify, if_true, h]
  rfl
end
/-- A whole queue stored over the one in a box. -/
def putQ (w : World) (p : Nat) (q : Q) (nv wv : Value) : World :=
  ((((((w.setCell ⟨p, 0, none⟩ (.int .i64 q.t.root)).setCell ⟨p, 1, none⟩ nv).setCell ⟨p, 2, none⟩ (.int .i64 q.cur)).setCell ⟨p, 3, none⟩ (.int .u64 q.v)).setCell ⟨p, 4, none⟩ (.int .u64 q.mn)).setCell ⟨p, 5, none⟩ (.int .i64 q.load)).setCell ⟨p, 6, none⟩ wv
section
variable {w : World} {p : Nat}
theorem Qb.putQ {q0 : Q} {nv0 wv0 : Value} (h : Qb w p q0 nv0 wv0) (q : Q) (nv wv : Value) : Qb (putQ w p q nv wv) p q nv wv :=
  ((((((h.putT q.t nv).putC q.cur).putV q.v).putM q.mn).putL q.load).putW wv)
theorem Qb.otherQ {q0 : Q} {nv0 wv0 : Value} (h : Qb w p q0 nv0 wv0) {p' : Nat} (hne : p ≠ p') (q : Q) (nv wv : Value) : Qb (Proofs.YtpmknpdnhfnfcaaGreatDoor.putQ w p' q nv wv) p q0 nv0 wv0 :=
  ((((((h.other hne _ _).other hne _ _).other hne _ _).other hne _ _).other hne _ _).other hne _ _).other hne _ _
theorem Nds.putQ {v : Value} {l : List N} (h : Nds w v l) (ha : l ≠ [] → Aw p v) (q : Q) (nv wv : Value) : Nds (Proofs.YtpmknpdnhfnfcaaGreatDoor.putQ w p q nv wv) v l :=
  ((((((h.aw ha _ _).aw ha _ _).aw ha _ _).aw ha _ _).aw ha _ _).aw ha _ _).aw ha _ _
theorem Ints.putQ {v : Value} {l : List Int} (h : Ints .i64 w v l) (ha : l ≠ [] → Aw p v) (q : Q) (nv wv : Value) : Ints .i64 (Proofs.YtpmknpdnhfnfcaaGreatDoor.putQ w p q nv wv) v l :=
  ((((((h.aw ha _ _).aw ha _ _).aw ha _ _).aw ha _ _).aw ha _ _).aw ha _ _).aw ha _ _
theorem Own.putQ {B : Nat} {e : TypeId} {v : Value} {l : List Int} (h : Own .i64 w B e v l) (hp : p < B) (q : Q) (nv wv : Value) : Own .i64 (Proofs.YtpmknpdnhfnfcaaGreatDoor.putQ w p q nv wv) B e v l :=
  ((((((h.aw hp _ _).aw hp _ _).aw hp _ _).aw hp _ _).aw hp _ _).aw hp _ _).aw hp _ _
theorem belowQ {B : Nat} {W : World} (h : Below B W w) (hp : B ≤ p) (q : Q) (nv wv : Value) : Below B W (putQ w p q nv wv) :=
  ((((((h.setCell (p := ⟨p, 0, none⟩) hp _).setCell (p := ⟨p, 1, none⟩) hp _).setCell (p := ⟨p, 2, none⟩) hp _).setCell (p := ⟨p, 3, none⟩) hp _).setCell (p := ⟨p, 4, none⟩) hp _).setCell (p := ⟨p, 5, none⟩) hp _).setCell (p := ⟨p, 6, none⟩) hp _
end
/-- The zero queue's box. -/
theorem Qb.zero (w : World) : Qb (w.alloc (.cells #[.int .i64 0, .slice none 0 0, .int .i64 0, .int .u64 0, .int .u64 0, .int .i64 0, .slice none 0 0] 28)) w.heap.size qE (.slice none 0 0) (.slice none 0 0) := heap_alloc_new _ _
/-- The two boxes that a call lays as it begins. -/
def w2q (W : World) (q : Q) (nv wv : Value) : World := (W.alloc (qo q nv wv)).alloc (.cells #[.int .i64 0, .slice none 0 0, .int .i64 0, .int .u64 0, .int .u64 0, .int .i64 0, .slice none 0 0] 28)
theorem w2q_box (W : World) (q : Q) (nv wv : Value) : Qb (w2q W q nv wv) W.heap.size q nv wv ∧ Qb (w2q W q nv wv) (W.heap.size + 1) qE (.slice none 0 0) (.slice none 0 0) ∧ Below W.heap.size W (w2q W q nv wv) := by
  have h2 := Qb.zero (W.alloc (qo q nv wv))
  rw [show (W.alloc (qo q nv wv)).heap.size = W.heap.size + 1 by simp] at h2
  exact ⟨(Qb.new W q nv wv).gr (Gr.alloc _ _), h2, ((Gr.alloc _ _).trans (Gr.alloc _ _)).below⟩
theorem Qb.res {w : World} {p : Nat} {q : Q} {nv wv : Value} (h : Qb w p q nv wv) : w.cell? ⟨p, 0, none⟩ = some (.int .i64 q.t.root) ∧ w.cell? ⟨p, 1, none⟩ = some nv ∧ w.cell? ⟨p, 2, none⟩ = some (.int .i64 q.cur) ∧ w.cell? ⟨p, 3, none⟩ = some (.int .u64 q.v) ∧ w.cell? ⟨p, 4, none⟩ = some (.int .u64 q.mn) ∧ w.cell? ⟨p, 5, none⟩ = some (.int .i64 q.load) ∧ w.cell? ⟨p, 6, none⟩ = some wv := h.all

set_option maxRecDepth 100000 in
theorem stopped_any (q : Q) (a a' : Option Addr) (n c n' c' : Nat) (W : World) :
    Calls Tryz.prog 52 #[qv q (.slice a n c) (.slice a' n' c')] W fun e w' => e = .returned (qv q.stop (.slice a n c) (.slice a' n' c')) ∧ Below W.heap.size W w' := by
  have HW := Lib.hid (w2q_box W q (.slice a n c) (.slice a' n' c'))
  unfold w2q qo at HW
  unfold qv Q.stop
  go_enter Tryz.func52, Tryz.ntmps52
  go_upto_region 1 with fail
  generalize hp : W.heap.size + 1 = p1 at HW ⊢
  generalize (W.alloc _).alloc _ = w2 at HW ⊢
  obtain ⟨g0, g1, g2, g3, g4, g5, g6⟩ := HW.out.1.all
  obtain ⟨f0, f1, f2, f3, f4, f5, f6⟩ := HW.out.1.free
  obtain ⟨z0, z1, z2, z3, z4, z5, z6⟩ := HW.out.2.1.all
  obtain ⟨y0, y1, y2, y3, y4, y5, y6⟩ := HW.out.2.1.free
  have HP : Hid (Qb (putQ ((w2.setCell ⟨W.heap.size, 2, none⟩ (.int .i64 (-1))).setCell ⟨W.heap.size, 3, none⟩ (.int .u64 0)) p1 q.stop (.slice a n c) (.slice a' n' c')) p1 q.stop (.slice a n c) (.slice a' n' c') ∧ Below W.heap.size W (putQ ((w2.setCell ⟨W.heap.size, 2, none⟩ (.int .i64 (-1))).setCell ⟨W.heap.size, 3, none⟩ (.int .u64 0)) p1 q.stop (.slice a n c) (.slice a' n' c'))) := Lib.hid
    ⟨((HW.out.2.1.other (by omega) _ _).other (by omega) _ _).putQ _ _ _, belowQ ((HW.out.2.2.setCell (p := ⟨W.heap.size, 2, none⟩) (Nat.le_refl _) _).setCell (p := ⟨W.heap.size, 3, none⟩) (Nat.le_refl _) _) (by omega) _ _ _⟩
  unfold putQ Q.stop at HP
  clear HW
  go_wp2
  obtain ⟨s0, s1, s2, s3, s4, s5, s6⟩ := HP.out.1.res
  exact bodyPost_ret (v := .agg #[.int .i64 q.t.root, .slice a n c, .int .i64 (-1), .int .u64 0, .int .u64 q.mn, .int .i64 q.load, .slice a' n' c']) (by simp [results, Tryz.results52, go_sem, s0, s1, s2, s3, s4, s5, s6]) rfl ⟨rfl, HP.out.2⟩
end Go.Proofs.YtpmknpdnhfnfcaaGreatDoor

namespace Go.Proofs.YtpmknpdnhfnfcaaGreatDoor
open Go.RowKit Go.Sort Ky Wd Tn Tr Wg Qu

/-- A queue's slices, by their forms. -/
abbrev sv (a : Option Addr) (n c : Nat) : Value := .slice a n c

set_option maxRecDepth 100000 in
set_option maxHeartbeats 1000000 in
theorem inserted_any {q : Q} {a a' : Option Addr} {n c n' c' : Nat} {W : World} (hN : Nds W (.slice a n c) q.t.ns) {k : K} (hk : Kin k) {t' : T} (hI : Ins q.mn k q.t t' 0) :
    Calls Tryz.prog 47 #[qv q (.slice a n c) (.slice a' n' c'), .agg #[.int .u64 k.1, .int .i64 k.2]] W fun e w' =>
      (∃ a2 c2, e = .returned (qv { q with t := t' } (.slice a2 t'.ns.length c2) (.slice a' n' c')) ∧ Nds w' (.slice a2 t'.ns.length c2) t'.ns) ∧ Below W.heap.size W w' := by
  -- three boxes: q, k, the result
  have HK1 := Lib.hid (Kb.new (W.alloc (qo q (.slice a n c) (.slice a' n' c'))) k)
  rw [show (W.alloc (qo q (.slice a n c) (.slice a' n' c'))).heap.size = W.heap.size + 1 by simp] at HK1
  have HZ := Lib.hid (Qb.zero ((W.alloc (qo q (.slice a n c) (.slice a' n' c'))).alloc (.cells #[.int .u64 k.1, .int .i64 k.2] 57)))
  rw [show ((W.alloc (qo q (.slice a n c) (.slice a' n' c'))).alloc (.cells #[.int .u64 k.1, .int .i64 k.2] 57)).heap.size = W.heap.size + 1 + 1 by simp] at HZ
  have HG := Lib.hid (((Gr.alloc W (qo q (.slice a n c) (.slice a' n' c'))).trans (Gr.alloc _ (.cells #[.int .u64 k.1, .int .i64 k.2] 57))).trans (Gr.alloc _ (.cells #[.int .i64 0, .slice none 0 0, .int .i64 0, .int .u64 0, .int .u64 0, .int .i64 0, .slice none 0 0] 28)))
  have HQ := Lib.hid (((Qb.new W q (.slice a n c) (.slice a' n' c')).gr (Gr.alloc _ (.cells #[.int .u64 k.1, .int .i64 k.2] 57))).gr (Gr.alloc _ (.cells #[.int .i64 0, .slice none 0 0, .int .i64 0, .int .u64 0, .int .u64 0, .int .i64 0, .slice none 0 0] 28)))
  have HK := Lib.hid (HK1.out.gr (Gr.alloc _ (.cells #[.int .i64 0, .slice none 0 0, .int .i64 0, .int .u64 0, .int .u64 0, .int .i64 0, .slice none 0 0] 28)))
  have HC := Lib.hid (Insert_at (hN.below HG.out.below) hk hI)
  have HN := Lib.hid hN
  clear hN hk hI HK1
  unfold qo at HG HK HZ HC
  unfold tv at HC
  unfold qv
  go_enter Tryz.func47, Tryz.ntmps47
  go_upto_region 1 with fail
  generalize hp1 : W.heap.size + 1 = p1 at HK HZ ⊢
  generalize hp2 : p1 + 1 = p2 at HZ ⊢
  generalize ((W.alloc _).alloc _).alloc _ = w3 at HQ HK HZ HG HC ⊢
  obtain ⟨g0, g1, g2, g3, g4, g5, g6⟩ := HQ.out.all
  obtain ⟨k0, k1, -, -, -⟩ := HK.out.all
  have HS := Lib.hid HN.out
  have hlt : p2 < w3.heap.size := HZ.out.lt
  have hlt0 := HQ.out.lt
  go_wp2_with fail
  refine HC.out.mono ?_
  rintro e' w4 ⟨⟨v4, rfl, hn4⟩, hb4⟩
  have HQ4 := Lib.hid (HQ.out.below hb4 HQ.out.lt)
  have HZ4 := Lib.hid (HZ.out.below hb4 HZ.out.lt)
  have HB4 := Lib.hid (HG.out.below.trans (hb4.mono HG.out.below.size))
  have hn4' := hn4
  obtain ⟨a4, c4, rfl, -, -⟩ := hn4'
  have HN4 := Lib.hid hn4
  clear HC hb4 hn4 g0 g1 g2 g3 g4 g5 g6 k0 k1 HQ HZ HG HK
  obtain ⟨g0, g1, g2, g3, g4, g5, g6⟩ := HQ4.out.all
  obtain ⟨f0, f1, f2, f3, f4, f5, f6⟩ := HQ4.out.free
  obtain ⟨z0, z1, z2, z3, z4, z5, z6⟩ := HZ4.out.all
  obtain ⟨y0, y1, y2, y3, y4, y5, y6⟩ := HZ4.out.free
  have HP : Hid (Qb (putQ ((w4.setCell ⟨W.heap.size, 0, none⟩ (.int .i64 t'.root)).setCell ⟨W.heap.size, 1, none⟩ (.slice a4 t'.ns.length c4)) p2 { q with t := t' } (.slice a4 t'.ns.length c4) (.slice a' n' c')) p2 { q with t := t' } (.slice a4 t'.ns.length c4) (.slice a' n' c') ∧
      Below W.heap.size W (putQ ((w4.setCell ⟨W.heap.size, 0, none⟩ (.int .i64 t'.root)).setCell ⟨W.heap.size, 1, none⟩ (.slice a4 t'.ns.length c4)) p2 { q with t := t' } (.slice a4 t'.ns.length c4) (.slice a' n' c')) ∧
      Nds (putQ ((w4.setCell ⟨W.heap.size, 0, none⟩ (.int .i64 t'.root)).setCell ⟨W.heap.size, 1, none⟩ (.slice a4 t'.ns.length c4)) p2 { q with t := t' } (.slice a4 t'.ns.length c4) (.slice a' n' c')) (.slice a4 t'.ns.length c4) t'.ns) := Lib.hid
    ⟨((HZ4.out.other (by omega) _ _).other (by omega) _ _).putQ _ _ _, belowQ ((HB4.out.setCell (p := ⟨W.heap.size, 0, none⟩) (Nat.le_refl _) _).setCell (p := ⟨W.heap.size, 1, none⟩) (Nat.le_refl _) _) (by omega) _ _ _,
      ((HN4.out.aw (HN4.out.off HQ4.out) _ _).aw (HN4.out.off HQ4.out) _ _).putQ (HN4.out.off HZ4.out) _ _ _⟩
  unfold putQ at HP
  have hq1 : ¬ p2 = W.heap.size := by omega
  clear HQ4 HZ4 HB4 HN4
  go_wp2
  obtain ⟨s0, s1, s2, s3, s4, s5, s6⟩ := HP.out.1.res
  exact bodyPost_ret (v := .agg #[.int .i64 t'.root, .slice a4 t'.ns.length c4, .int .i64 q.cur, .int .u64 q.v, .int .u64 q.mn, .int .i64 q.load, .slice a' n' c']) (by simp [results, Tryz.results47, go_sem, s0, s1, s2, s3, s4, s5, s6]) rfl ⟨⟨a4, c4, rfl, HP.out.2.2⟩, HP.out.2.1⟩

set_option maxRecDepth 100000 in
set_option maxHeartbeats 1000000 in
theorem deleted_any {q : Q} {a a' : Option Addr} {n c n' c' : Nat} {W : World} (hN : Nds W (.slice a n c) q.t.ns) {id : Int} {t' : T} (hI : Del q.mn id q.t t' 0) :
    Calls Tryz.prog 53 #[qv q (.slice a n c) (.slice a' n' c'), .int .i64 id] W fun e w' =>
      (∃ a2 c2, e = .returned (qv { q with t := t' } (.slice a2 t'.ns.length c2) (.slice a' n' c')) ∧ Nds w' (.slice a2 t'.ns.length c2) t'.ns) ∧ Below W.heap.size W w' := by
  have HW := Lib.hid (w2q_box W q (.slice a n c) (.slice a' n' c'))
  have HC := Lib.hid (Delete_at (hN.below HW.out.2.2) hI)
  unfold w2q qo at HW HC
  unfold tv at HC
  clear hN hI
  unfold qv
  go_enter Tryz.func53, Tryz.ntmps53
  go_upto_region 1 with fail
  generalize hp2 : W.heap.size + 1 = p2 at HW ⊢
  generalize (W.alloc _).alloc _ = w3 at HW HC ⊢
  obtain ⟨g0, g1, g2, g3, g4, g5, g6⟩ := HW.out.1.all
  go_wp2_with fail
  refine HC.out.mono ?_
  rintro e' w4 ⟨⟨v4, rfl, hn4⟩, hb4⟩
  have HQ4 := Lib.hid (HW.out.1.below hb4 HW.out.1.lt)
  have HZ4 := Lib.hid (HW.out.2.1.below hb4 HW.out.2.1.lt)
  have HB4 := Lib.hid (HW.out.2.2.trans (hb4.mono HW.out.2.2.size))
  have hn4' := hn4
  obtain ⟨a4, c4, rfl, -, -⟩ := hn4'
  have HN4 := Lib.hid hn4
  clear HC hb4 hn4 g0 g1 g2 g3 g4 g5 g6 HW
  obtain ⟨g0, g1, g2, g3, g4, g5, g6⟩ := HQ4.out.all
  obtain ⟨f0, f1, f2, f3, f4, f5, f6⟩ := HQ4.out.free
  obtain ⟨z0, z1, z2, z3, z4, z5, z6⟩ := HZ4.out.all
  obtain ⟨y0, y1, y2, y3, y4, y5, y6⟩ := HZ4.out.free
  have HP : Hid (Qb (putQ ((w4.setCell ⟨W.heap.size, 0, none⟩ (.int .i64 t'.root)).setCell ⟨W.heap.size, 1, none⟩ (.slice a4 t'.ns.length c4)) p2 { q with t := t' } (.slice a4 t'.ns.length c4) (.slice a' n' c')) p2 { q with t := t' } (.slice a4 t'.ns.length c4) (.slice a' n' c') ∧
      Below W.heap.size W (putQ ((w4.setCell ⟨W.heap.size, 0, none⟩ (.int .i64 t'.root)).setCell ⟨W.heap.size, 1, none⟩ (.slice a4 t'.ns.length c4)) p2 { q with t := t' } (.slice a4 t'.ns.length c4) (.slice a' n' c')) ∧
      Nds (putQ ((w4.setCell ⟨W.heap.size, 0, none⟩ (.int .i64 t'.root)).setCell ⟨W.heap.size, 1, none⟩ (.slice a4 t'.ns.length c4)) p2 { q with t := t' } (.slice a4 t'.ns.length c4) (.slice a' n' c')) (.slice a4 t'.ns.length c4) t'.ns) := Lib.hid
    ⟨((HZ4.out.other (by omega) _ _).other (by omega) _ _).putQ _ _ _, belowQ ((HB4.out.setCell (p := ⟨W.heap.size, 0, none⟩) (Nat.le_refl _) _).setCell (p := ⟨W.heap.size, 1, none⟩) (Nat.le_refl _) _) (by omega) _ _ _,
      ((HN4.out.aw (HN4.out.off HQ4.out) _ _).aw (HN4.out.off HQ4.out) _ _).putQ (HN4.out.off HZ4.out) _ _ _⟩
  unfold putQ at HP
  have hq1 : ¬ p2 = W.heap.size := by omega
  clear HQ4 HZ4 HB4 HN4
  go_wp2
  obtain ⟨s0, s1, s2, s3, s4, s5, s6⟩ := HP.out.1.res
  exact bodyPost_ret (v := .agg #[.int .i64 t'.root, .slice a4 t'.ns.length c4, .int .i64 q.cur, .int .u64 q.v, .int .u64 q.mn, .int .i64 q.load, .slice a' n' c']) (by simp [results, Tryz.results53, go_sem, s0, s1, s2, s3, s4, s5, s6]) rfl ⟨⟨a4, c4, rfl, HP.out.2.2⟩, HP.out.2.1⟩

/-- A queue whose slices are the call's own, made from B on. -/
structure Qw (w : World) (B : Nat) (q : Q) (nv wv : Value) : Prop where
  own : Own .i64 w B 3 wv q.ws
  wf : ∀ z ∈ q.ws, (Lit.int .i64 z).wf = true
  nds : Nds w nv q.t.ns
  nB : ∀ a n c, nv = .slice (some a) n c → B ≤ a.block
  apart : ∀ a n c r, nv = .slice (some a) n c → wv.ownBlock = some r → a.block ≠ r
  uv : U q.v
  um : U q.mn
  ic : I q.cur
theorem Qw.qd {w : World} {B : Nat} {q : Q} {nv wv : Value} (h : Qw w B q nv wv) : Qd w q nv wv := ⟨h.nds, h.own.ints h.wf, h.uv, h.um, h.ic⟩
theorem Qw.below {w w' : World} {B : Nat} {q : Q} {nv wv : Value} (h : Qw w B q nv wv) (hb : Below w.heap.size w w') : Qw w' B q nv wv := ⟨h.own.below hb, h.wf, h.nds.below hb, h.nB, h.apart, h.uv, h.um, h.ic⟩
theorem Qw.aw {w : World} {B : Nat} {q : Q} {nv wv : Value} (h : Qw w B q nv wv) {p : Nat} (hp : p < B) (o : Nat) (x : Value) : Qw (w.setCell ⟨p, o, none⟩ x) B q nv wv :=
  ⟨h.own.aw hp o x, h.wf, h.nds.aw (fun _ a n c e => by have := h.nB a n c e; omega) o x, h.nB, h.apart, h.uv, h.um, h.ic⟩
theorem Qw.putQ {w : World} {B : Nat} {q : Q} {nv wv : Value} (h : Qw w B q nv wv) {p : Nat} (hp : p < B) (q' : Q) (nv' wv' : Value) : Qw (Proofs.YtpmknpdnhfnfcaaGreatDoor.putQ w p q' nv' wv') B q nv wv :=
  ((((((h.aw hp _ _).aw hp _ _).aw hp _ _).aw hp _ _).aw hp _ _).aw hp _ _).aw hp _ _
theorem Qw.mono {w : World} {B B' : Nat} {q : Q} {nv wv : Value} (h : Qw w B q nv wv) (hB : B' ≤ B) : Qw w B' q nv wv :=
  ⟨World.ownsRow.mono h.own hB, h.wf, h.nds, fun a n c e => Nat.le_trans hB (h.nB a n c e), h.apart, h.uv, h.um, h.ic⟩

set_option maxRecDepth 100000 in
/-- slices.Clone of nodes, of any number. -/
theorem cloneN_any {W : World} {v : Value} {l : List N} (hN : Nds W v l) (hl : l.length ≤ 1000) :
    Calls Tryz.prog 99 #[v] W fun e w' => (∃ v', e = .returned v' ∧ OwnN w' W.heap.size 82 v' l) ∧ Below W.heap.size W w' := by
  have HN := Lib.hid hN
  obtain ⟨a, cap, rfl, hc1, hc2⟩ := hN.len
  cases a with
  | none =>
    obtain rfl : l = [] := by
      rcases hN.parts with ⟨h0, -⟩ | ⟨-, b, off, c, e, -⟩
      · exact h0
      · cases e
    have hbe : ∀ w, (binOp BinOp.eql 22 (.slice none 0 cap) (.slice none 0 0)).run Tryz.prog w = .ok (.bool true) w := by intro w; rfl
    clear hN
    go_enter Tryz.func99, Tryz.ntmps99
    go_wp2
    go_ret
    exact ⟨⟨_, rfl, OwnN.nil _ _ _⟩, Below.refl _ _⟩
  | some A =>
    have hbe : ∀ w, (binOp BinOp.eql 22 (.slice (some A) l.length cap) (.slice none 0 0)).run Tryz.prog w = .ok (.bool false) w := by intro w; rfl
    clear hN
    go_enter Tryz.func99, Tryz.ntmps99
    go_wp2_with (refine wpList_append_nodes rfl (.tmp 5) (.tmp 6) 22 rfl W.heap.size 82 Tryz.underlying22 info_node (by decide) (.slice (some ⟨W.heap.size, 0, none⟩) 0 0) (.slice (some A) l.length cap) (by simp [Act.eval]) (by simp [Act.eval]) [] l (World.ownsRow_made W #[] 0 (Nat.le_refl _) (Nat.zero_le _) rfl) (HN.out.below ((Below.refl _ _).alloc (Nat.le_refl _) _)) (by simp only [List.length_nil]; omega) (by simp) ?_; intro v' w2 hO2 hb2)
    have HF := Lib.hid (And.intro hO2 ((((Below.refl W.heap.size W).alloc (Nat.le_refl _) (.cells #[] 82))).trans hb2))
    clear hO2 hb2
    go_wp2_with fail
    go_ret
    exact ⟨⟨v', rfl, by simpa using HF.out.1⟩, HF.out.2⟩
set_option maxRecDepth 100000 in
theorem info_int64 : (Tryz.prog.info? 3).map (fun i => (i.zero, i.size, i.bytes)) = some (some (.int .i64 0), 1, 8) := by kernel_rfl
set_option maxRecDepth 100000 in
/-- slices.Clone of integers, of any number. -/
theorem cloneI_any {W : World} {v : Value} {l : List Int} (hN : Ints .i64 W v l) (hl : l.length ≤ 1000) :
    Calls Tryz.prog 100 #[v] W fun e w' => (∃ v', e = .returned v' ∧ Own .i64 w' W.heap.size 3 v' l) ∧ Below W.heap.size W w' := by
  have HN := Lib.hid hN
  obtain ⟨a, cap, rfl, -, -, -⟩ := hN
  cases a with
  | none =>
    obtain rfl : l = [] := by
      rcases HN.out.parts with ⟨h0, -⟩ | ⟨-, -, b, off, c, e, -⟩
      · exact h0
      · cases e
    have hbe : ∀ w, (binOp BinOp.eql 26 (.slice none 0 cap) (.slice none 0 0)).run Tryz.prog w = .ok (.bool true) w := by intro w; rfl
    go_enter Tryz.func100, Tryz.ntmps100
    go_wp2
    go_ret
    exact ⟨⟨_, rfl, Own.nil _ _ _ _⟩, Below.refl _ _⟩
  | some A =>
    have hbe : ∀ w, (binOp BinOp.eql 26 (.slice (some A) l.length cap) (.slice none 0 0)).run Tryz.prog w = .ok (.bool false) w := by intro w; rfl
    have HX := Lib.hid (HN.out.below ((Below.refl W.heap.size W).alloc (Nat.le_refl _) (.cells #[] 3)))
    have HM : Hid (Own .i64 (W.alloc (.cells #[] 3)) W.heap.size 3 (.slice (some ⟨W.heap.size, 0, none⟩) 0 0) []) := Lib.hid (World.ownsRow_made W #[] 0 (Nat.le_refl _) (Nat.zero_le _) rfl)
    go_enter Tryz.func100, Tryz.ntmps100
    go_wp2_with (at_builtin; refine wpList_append_ints rfl (.tmp 5) (.tmp 6) 26 rfl W.heap.size 3 Tryz.underlying26 info_int64 (by decide) [] l HM.out HX.out (by simp; omega) (by simp) ?_; intro v' w2 hO2 hb2)
    have HF := Lib.hid (And.intro hO2 ((((Below.refl W.heap.size W).alloc (Nat.le_refl _) (.cells #[] 3))).trans hb2))
    clear hO2 hb2
    go_wp2_with fail
    go_ret
    exact ⟨⟨v', rfl, by simpa using HF.out.1⟩, HF.out.2⟩
end Go.Proofs.YtpmknpdnhfnfcaaGreatDoor

namespace Go.Proofs.YtpmknpdnhfnfcaaGreatDoor
open Go.RowKit Go.Sort Ky Wd Tn Tr Wg Qu

theorem Own.at {w : World} {B : Nat} {e : TypeId} {v : Value} {l : List Int} (h : Own .i64 w B e v l) {j : Nat} (hj : j < l.length) :
    ∃ g c, v = .slice (some ⟨g, 0, none⟩) l.length c ∧ l.length ≤ c ∧ c ≤ maxLen ∧ B ≤ g ∧ g < w.heap.size ∧ w.cell? ⟨g, j, none⟩ = some (.int .i64 (l.getD j 0)) ∧ w.frozen? ⟨g, j, none⟩ = false := by
  have h0 := h
  rcases h.2 with ⟨rfl, e⟩ | ⟨g, cap, cur, rfl, hb, hg, hnc, hcm, hcs, htake⟩
  · omega
  · refine ⟨g, cap, rfl, hnc, hcm, hb, (Array.getElem?_eq_some_iff.1 hg).1, ?_, World.ownsRow.frozenAt h0 j⟩
    rw [World.ownsRow.cellAt h0 j (by simpa using hj)]
    simp [List.getD, hj]
theorem Own.set {w : World} {B g n c : Nat} {e : TypeId} {l : List Int} (h : Own .i64 w B e (.slice (some ⟨g, 0, none⟩) n c) l) (hn : n = l.length) (j : Nat) (x : Int) :
    Own .i64 (w.setCell ⟨g, j, none⟩ (.int .i64 x)) B e (.slice (some ⟨g, 0, none⟩) n c) (l.set j x) := by
  subst hn
  have := (World.ownsRow.stored h j (.int .i64 x)).1
  unfold Own
  rw [List.length_set, List.map_set]
  exact this

theorem Nds.old {W : World} {v : Value} {l : List N} (h : Nds W v l) {p : Nat} (hp : W.heap.size ≤ p) : l ≠ [] → Aw p v := by
  intro hz a n c e
  rcases h.parts with ⟨h0, -⟩ | ⟨-, b, off, cap, rfl, -, hb, -⟩
  · exact absurd h0 hz
  · simp only [Value.slice.injEq, Option.some.injEq] at e
    rw [← e.1]; show b ≠ p; omega
theorem Own.aw2 {k : IntKind} {w : World} {B : Nat} {e : TypeId} {v : Value} {zs : List Int} (h : Own k w B e v zs) {p : Nat} (hp : ∀ r, v.ownBlock = some r → r ≠ p) (o : Nat) (x : Value) : Own k (w.setCell ⟨p, o, none⟩ x) B e v zs := by
  refine World.ownsRow.kept (row := some p) h ⟨rfl, rfl, rfl, by simp, fun i _ hi => heap_setCell_other w ⟨p, o, none⟩ i x (fun e => hi (by simp [e]))⟩ ?_
  cases hv : v.ownBlock with
  | none => exact .inl rfl
  | some r => exact .inr (fun e => hp r hv (Option.some.inj e))
theorem Qw.aw2 {w : World} {B : Nat} {q : Q} {nv wv : Value} (h : Qw w B q nv wv) {p : Nat} (hn : q.t.ns ≠ [] → Aw p nv) (hw : ∀ r, wv.ownBlock = some r → r ≠ p) (o : Nat) (x : Value) : Qw (w.setCell ⟨p, o, none⟩ x) B q nv wv :=
  ⟨h.own.aw2 hw o x, h.wf, h.nds.aw hn o x, h.nB, h.apart, h.uv, h.um, h.ic⟩
theorem Qw.putQ2 {w : World} {B : Nat} {q : Q} {nv wv : Value} (h : Qw w B q nv wv) {p : Nat} (hn : q.t.ns ≠ [] → Aw p nv) (hw : ∀ r, wv.ownBlock = some r → r ≠ p) (q' : Q) (nv' wv' : Value) : Qw (Proofs.YtpmknpdnhfnfcaaGreatDoor.putQ w p q' nv' wv') B q nv wv :=
  ((((((h.aw2 hn hw _ _).aw2 hn hw _ _).aw2 hn hw _ _).aw2 hn hw _ _).aw2 hn hw _ _).aw2 hn hw _ _).aw2 hn hw _ _
theorem set_wf {l : List Int} {x : Int} (hl : ∀ z ∈ l, (Lit.int .i64 z).wf = true) (hx : (Lit.int .i64 x).wf = true) (j : Nat) : ∀ z ∈ l.set j x, (Lit.int .i64 z).wf = true := by
  intro z hz
  rcases List.mem_or_eq_of_mem_set hz with h | rfl
  · exact hl z h
  · exact hx

set_option maxRecDepth 100000 in
set_option maxHeartbeats 1000000 in
theorem weighed_any {q : Q} {nv wv : Value} {W : World} {B : Nat} (hQ : Qw W B q nv wv) (hB : B ≤ W.heap.size) {id : Int} (hid : 0 ≤ id ∧ id < q.ws.length) {x : Int} (hx : 0 ≤ x ∧ x ≤ 88761) (hw : 0 ≤ q.w id ∧ q.w id ≤ 88761) (hl : 0 ≤ q.load ∧ q.load ≤ 5680704) :
    Calls Tryz.prog 48 #[qv q nv wv, .int .i64 id, .int .i64 x] W fun e w' => e = .returned (qv (q.weigh id x) nv wv) ∧ Qw w' B (q.weigh id x) nv wv ∧ Below B W w' := by
  obtain ⟨j, rfl⟩ := Int.eq_ofNat_of_zero_le hid.1
  have hj : j < q.ws.length := by omega
  obtain ⟨a, c, rfl, hc1, hc2⟩ := hQ.nds.len
  obtain ⟨g, cw, rfl, hcw, hcm, hg, hgw, hcell, hfz⟩ := hQ.own.at hj
  have HQ0 := Lib.hid hQ
  have HW := Lib.hid (w2q_box W q (.slice a q.t.ns.length c) (.slice (some ⟨g, 0, none⟩) q.ws.length cw))
  have HQ := Lib.hid (hQ.below HW.out.2.2)
  obtain ⟨xw, hxw⟩ : ∃ xw, q.w j = xw := ⟨_, rfl⟩
  have hcell' : W.cell? ⟨g, j, none⟩ = some (.int .i64 xw) := by rw [hcell, ← hxw]; unfold Q.w; simp
  have HC2 := Lib.hid ((HW.out.2.2.cell (p := ⟨g, j, none⟩) hgw).trans hcell')
  have HWG : Hid (q.weigh j x = { q with load := q.load + (x - xw), ws := q.ws.set j x }) := Lib.hid (by unfold Q.weigh; rw [hxw]; simp)
  rw [hxw] at hw
  have HGE : Hid (B ≤ g ∧ g < W.heap.size) := Lib.hid ⟨hg, hgw⟩
  obtain ⟨hw1, hw2⟩ := hw
  obtain ⟨hx1, hx2⟩ := hx
  obtain ⟨hl1, hl2⟩ := hl
  unfold maxLen at hcm
  unfold w2q qo at HW HQ HC2
  clear hcell hcell' hxw hfz hQ hg hid hgw
  unfold qv
  go_enter Tryz.func48, Tryz.ntmps48
  go_upto_region 1 with fail
  generalize hp2 : W.heap.size + 1 = p2 at HW ⊢
  generalize (W.alloc _).alloc _ = w3 at HW HQ HC2 ⊢
  obtain ⟨g0, g1, g2, g3, g4, g5, g6⟩ := HW.out.1.all
  obtain ⟨f0, f1, f2, f3, f4, f5, f6⟩ := HW.out.1.free
  have c0 := HC2.out
  have hlt0 := HW.out.1.lt
  have hlt2 := HW.out.2.1.lt
  go_region
  have HB4 : Hid (Below W.heap.size W (w3.setCell ⟨W.heap.size, 5, none⟩ (.int .i64 (q.load + (x - xw)))).drew) := Lib.hid (HW.out.2.2.setCell (p := ⟨W.heap.size, 5, none⟩) (Nat.le_refl _) _).drew
  have HQ4 : Hid (Qb (w3.setCell ⟨W.heap.size, 5, none⟩ (.int .i64 (q.load + (x - xw)))).drew W.heap.size { q with load := q.load + (x - xw) } (.slice a q.t.ns.length c) (.slice (some ⟨g, 0, none⟩) q.ws.length cw)) := Lib.hid (HW.out.1.putL _)
  have HZ4 : Hid (Qb (w3.setCell ⟨W.heap.size, 5, none⟩ (.int .i64 (q.load + (x - xw)))).drew p2 qE (.slice none 0 0) (.slice none 0 0)) := Lib.hid (HW.out.2.1.other (by omega) _ _)
  generalize (w3.setCell ⟨W.heap.size, 5, none⟩ (.int .i64 (q.load + (x - xw)))).drew = w4 at HB4 HQ4 HZ4 ⊢
  have HQW4 := Lib.hid (HQ0.out.below HB4.out)
  clear g0 g1 g2 g3 g4 g5 g6 f0 f1 f2 f3 f4 f5 f6 c0 HW HC2 HQ
  obtain ⟨g0, g1, g2, g3, g4, g5, g6⟩ := HQ4.out.all
  obtain ⟨z0, z1, z2, z3, z4, z5, z6⟩ := HZ4.out.all
  obtain ⟨y0, y1, y2, y3, y4, y5, y6⟩ := HZ4.out.free
  have HOA := Lib.hid (HQW4.out.own.at hj)
  obtain ⟨c0, c1⟩ : w4.cell? ⟨g, j, none⟩ = some (.int .i64 (q.ws.getD j 0)) ∧ w4.frozen? ⟨g, j, none⟩ = false := by
    obtain ⟨g', c', e, -, -, -, -, h1, h2⟩ := HOA.out
    simp only [Value.slice.injEq, Option.some.injEq, Addr.mk.injEq, and_true, true_and] at e
    obtain ⟨rfl, -⟩ := e
    exact ⟨h1, h2⟩
  have hgp2 : ¬ p2 = g := by have := HGE.out; omega
  have hgp0 : ¬ W.heap.size = g := by have := HGE.out; omega
  have HP : Hid (Qb (putQ (w4.setCell ⟨g, j, none⟩ (.int .i64 x)) p2 { q with load := q.load + (x - xw) } (.slice a q.t.ns.length c) (.slice (some ⟨g, 0, none⟩) q.ws.length cw)) p2 { q with load := q.load + (x - xw) } (.slice a q.t.ns.length c) (.slice (some ⟨g, 0, none⟩) q.ws.length cw) ∧
      Below B W (putQ (w4.setCell ⟨g, j, none⟩ (.int .i64 x)) p2 { q with load := q.load + (x - xw) } (.slice a q.t.ns.length c) (.slice (some ⟨g, 0, none⟩) q.ws.length cw)) ∧
      Qw (putQ (w4.setCell ⟨g, j, none⟩ (.int .i64 x)) p2 { q with load := q.load + (x - xw) } (.slice a q.t.ns.length c) (.slice (some ⟨g, 0, none⟩) q.ws.length cw)) B { q with load := q.load + (x - xw), ws := q.ws.set j x } (.slice a q.t.ns.length c) (.slice (some ⟨g, 0, none⟩) q.ws.length cw)) := Lib.hid (by
    have hg := HGE.out
    refine ⟨(HZ4.out.other (by omega) _ _).putQ _ _ _, belowQ ((HB4.out.mono hB).setCell (p := ⟨g, j, none⟩) hg.1 _) (by omega) _ _ _, ?_⟩
    have h5 : Qw (w4.setCell ⟨g, j, none⟩ (.int .i64 x)) B { q with load := q.load + (x - xw), ws := q.ws.set j x } (.slice a q.t.ns.length c) (.slice (some ⟨g, 0, none⟩) q.ws.length cw) :=
      ⟨HQW4.out.own.set rfl j x, set_wf HQW4.out.wf (i64_wf (by omega)) j, HQW4.out.nds.aw (fun _ a' n' c' e => HQW4.out.apart a' n' c' g e rfl) _ _, HQW4.out.nB, HQW4.out.apart, HQW4.out.uv, HQW4.out.um, HQW4.out.ic⟩
    refine h5.putQ2 (HQ0.out.nds.old (by omega)) (fun r e => ?_) _ _ _
    have : g = r := Option.some.inj e
    omega)
  unfold putQ at HP
  clear HB4 HQ4 HZ4 HQW4 HOA
  go_wp2
  obtain ⟨s0, s1, s2, s3, s4, s5, s6⟩ := HP.out.1.res
  refine bodyPost_ret (v := .agg #[.int .i64 q.t.root, .slice a q.t.ns.length c, .int .i64 q.cur, .int .u64 q.v, .int .u64 q.mn, .int .i64 (q.load + (x - xw)), .slice (some ⟨g, 0, none⟩) q.ws.length cw]) (by simp [results, Tryz.results48, go_sem, s0, s1, s2, s3, s4, s5, s6]) rfl ?_
  rw [HWG.out]
  exact ⟨rfl, HP.out.2.2, HP.out.2.1⟩

theorem OwnN.form {w : World} {B : Nat} {e : TypeId} {v : Value} {l : List N} (h : OwnN w B e v l) : ∃ a c, v = .slice a l.length c ∧ ∀ A, a = some A → B ≤ A.block ∧ A.block < w.heap.size := by
  rcases h.2 with ⟨rfl, h0⟩ | ⟨g, cap, cur, rfl, hg, hh, -⟩
  · exact ⟨none, 0, by rw [h0], fun A e => by cases e⟩
  · exact ⟨_, _, rfl, fun A e => by cases e; exact ⟨hg, (Array.getElem?_eq_some_iff.1 hh).1⟩⟩
theorem Own.form {w : World} {B : Nat} {e : TypeId} {v : Value} {l : List Int} (h : Own .i64 w B e v l) : (∃ a c, v = .slice a l.length c) ∧ ∀ r, v.ownBlock = some r → B ≤ r ∧ r < w.heap.size := by
  refine ⟨?_, fun r hr => World.ownsRow.lt h r hr⟩
  rcases h.2 with ⟨rfl, h0⟩ | ⟨g, cap, cur, rfl, -⟩
  · exact ⟨none, 0, by rw [h0]⟩
  · exact ⟨_, _, rfl⟩

set_option maxRecDepth 100000 in
set_option maxHeartbeats 2000000 in
theorem own_any {q : Q} {nv wv : Value} {W : World} (hQ : Qd W q nv wv) (hn : q.t.ns.length ≤ 1000) (hw : q.ws.length ≤ 1000) :
    Calls Tryz.prog 49 #[qv q nv wv] W fun e w' => (∃ a2 c2 a3 c3, e = .returned (qv q (.slice a2 q.t.ns.length c2) (.slice a3 q.ws.length c3)) ∧ Qw w' W.heap.size q (.slice a2 q.t.ns.length c2) (.slice a3 q.ws.length c3)) ∧ Below W.heap.size W w' := by
  have HD := Lib.hid hQ
  obtain ⟨a, c, rfl, -, -⟩ := hQ.nds.len
  obtain ⟨a', c', rfl, -, -, -⟩ := hQ.ints
  have HW := Lib.hid (w2q_box W q (.slice a q.t.ns.length c) (.slice a' q.ws.length c'))
  have HN : Hid (∀ X, Below W.heap.size W X → Calls Tryz.prog 99 #[.slice a q.t.ns.length c] X fun e w' => (∃ v', e = .returned v' ∧ OwnN w' X.heap.size 82 v' q.t.ns) ∧ Below X.heap.size X w') := Lib.hid (fun X hX => cloneN_any (HD.out.nds.below hX) hn)
  have HI : Hid (∀ X, Below W.heap.size W X → Calls Tryz.prog 100 #[.slice a' q.ws.length c'] X fun e w' => (∃ v', e = .returned v' ∧ Own .i64 w' X.heap.size 3 v' q.ws) ∧ Below X.heap.size X w') := Lib.hid (fun X hX => cloneI_any (HD.out.ints.below hX) hw)
  clear hQ hn hw
  unfold w2q qo at HW
  unfold qv
  go_enter Tryz.func49, Tryz.ntmps49
  go_upto_region 1 with fail
  generalize hp2 : W.heap.size + 1 = p2 at HW ⊢
  generalize (W.alloc _).alloc _ = w2 at HW ⊢
  have hlt2 := HW.out.2.1.lt
  obtain ⟨g0, g1, g2, g3, g4, g5, g6⟩ := HW.out.1.all
  go_wp2
  go_region_with (first
    | (go_at_call 99; refine (HN.out _ ?_).mono ?_; exact HW.out.2.2.drew; rintro e' w3 ⟨⟨v3, rfl, hO3⟩, hb3⟩; obtain ⟨a3, c3, rfl, hf3⟩ := hO3.form; have HF3 := Lib.hid hf3; clear hf3; have HO3 := Lib.hid hO3; have HB3 := Lib.hid ((Below.refl w2.heap.size w2).drew.trans hb3); obtain ⟨m0, m1, m2, m3, m4, m5, m6⟩ := (HW.out.1.below HB3.out HW.out.1.lt).all; clear hO3 hb3)
    | (go_at_call 100; refine (HI.out _ ?_).mono ?_; exact HW.out.2.2.trans (HB3.out.mono HW.out.2.2.size); rintro e' w4 ⟨⟨v4, rfl, hO4⟩, hb4⟩; obtain ⟨⟨a4, c4, rfl⟩, hf4⟩ := hO4.form; have HF4 := Lib.hid hf4; clear hf4; have HO4 := Lib.hid hO4; have HB4 := Lib.hid hb4; have HB24 := Lib.hid (HB3.out.trans (hb4.mono HB3.out.size)); obtain ⟨u0, u1, u2, u3, u4, u5, u6⟩ := (HW.out.1.below HB24.out HW.out.1.lt).all; obtain ⟨t0, t1, t2, t3, t4, t5, t6⟩ := (HW.out.1.below HB24.out HW.out.1.lt).free; clear hO4 hb4))
  all_goals
    have HP : Hid (Qb (putQ ((w4.setCell ⟨W.heap.size, 1, none⟩ (.slice a3 q.t.ns.length c3)).setCell ⟨W.heap.size, 6, none⟩ (.slice a4 q.ws.length c4)) p2 q (.slice a3 q.t.ns.length c3) (.slice a4 q.ws.length c4)) p2 q (.slice a3 q.t.ns.length c3) (.slice a4 q.ws.length c4) ∧
        Below W.heap.size W (putQ ((w4.setCell ⟨W.heap.size, 1, none⟩ (.slice a3 q.t.ns.length c3)).setCell ⟨W.heap.size, 6, none⟩ (.slice a4 q.ws.length c4)) p2 q (.slice a3 q.t.ns.length c3) (.slice a4 q.ws.length c4)) ∧
        Qw (putQ ((w4.setCell ⟨W.heap.size, 1, none⟩ (.slice a3 q.t.ns.length c3)).setCell ⟨W.heap.size, 6, none⟩ (.slice a4 q.ws.length c4)) p2 q (.slice a3 q.t.ns.length c3) (.slice a4 q.ws.length c4)) W.heap.size q (.slice a3 q.t.ns.length c3) (.slice a4 q.ws.length c4)) := Lib.hid (by
      have hz4 := HW.out.2.1.below HB24.out hlt2
      have hb4 := HW.out.2.2.trans (HB24.out.mono HW.out.2.2.size)
      have hs3 := HB3.out.size
      have h4 : Qw w4 w2.heap.size q (.slice a3 q.t.ns.length c3) (.slice a4 q.ws.length c4) :=
        ⟨World.ownsRow.mono HO4.out hs3, HD.out.ints.wf, (HO3.out.nds HD.out.nds.us).below HB4.out,
          fun A n c e => by simp only [Value.slice.injEq] at e; exact (HF3.out A e.1).1,
          fun A n c r e hr => by
            simp only [Value.slice.injEq] at e
            have h1 := (HF3.out A e.1).2
            have h2 := (HF4.out r hr).1
            omega,
          HD.out.uv, HD.out.um, HD.out.ic⟩
      exact ⟨((hz4.other (by omega) _ _).other (by omega) _ _).putQ _ _ _, belowQ ((hb4.setCell (p := ⟨W.heap.size, 1, none⟩) (Nat.le_refl _) _).setCell (p := ⟨W.heap.size, 6, none⟩) (Nat.le_refl _) _) (by omega) _ _ _, (((h4.aw (by omega) _ _).aw (by omega) _ _).putQ (by omega) _ _ _).mono (by omega)⟩)
    obtain ⟨v0, v1, v2, v3, v4, v5, v6⟩ := (HW.out.2.1.below HB24.out hlt2).all
    obtain ⟨x0, x1, x2, x3, x4, x5, x6⟩ := (HW.out.2.1.below HB24.out hlt2).free
    have hq1 : ¬ p2 = W.heap.size := by omega
    have hq2 : ¬ W.heap.size = p2 := by omega
    unfold putQ at HP
    clear HO3 HO4 HF3 HF4 HB3 HB4 HB24 HN HI
    go_wp2
    obtain ⟨s0, s1, s2, s3, s4, s5, s6⟩ := HP.out.1.res
    exact bodyPost_ret (v := .agg #[.int .i64 q.t.root, .slice a3 q.t.ns.length c3, .int .i64 q.cur, .int .u64 q.v, .int .u64 q.mn, .int .i64 q.load, .slice a4 q.ws.length c4]) (by simp [results, Tryz.results49, go_sem, s0, s1, s2, s3, s4, s5, s6]) rfl ⟨⟨_, _, _, _, rfl, HP.out.2.2⟩, HP.out.2.1⟩
end Go.Proofs.YtpmknpdnhfnfcaaGreatDoor
