/-
  A queue by value, and in a box; contracts of queue's small functions: isTask, isHere, isWeight, running, curRight.
  Contracts of queue's all, lagsRight, weightsRight and Right.
  Contracts of queue's lagsRight, weightsRight and Right.
  Contracts of queue's Right and Keys.
-/
import Derived.Test.YtpmknpdnhfnfcaaGreatDoorPlA
import Derived.Test.YtpmknpdnhfnfcaaGreatDoorWdZ
import Derived.Test.YtpmknpdnhfnfcaaGreatDoorTurnB
import Derived.Test.YtpmknpdnhfnfcaaGreatDoorSlN
import Derived.Test.YtpmknpdnhfnfcaaGreatDoorKyF
import Derived.Deep.DeepCutAuto
import Derived.Deep.LoopGhost
import Derived.Deep.RegionHeld3
import Derived.Test.YtpmknpdnhfnfcaaGreatDoorTwM
import Derived.Test.YtpmknpdnhfnfcaaGreatDoorKyC
namespace Go.Proofs.YtpmknpdnhfnfcaaGreatDoor
open Go.RowKit Go.Sort Ky Wd Tn Tr Wg Qu

/-- A queue by value. -/
def qv (q : Q) (nv wv : Value) : Value := .agg #[.int .i64 q.t.root, nv, .int .i64 q.cur, .int .u64 q.v, .int .u64 q.mn, .int .i64 q.load, wv]
/-- A queue in a box. -/
def Qb (w : World) (p : Nat) (q : Q) (nv wv : Value) : Prop := w.heap[p]? = some (.cells #[.int .i64 q.t.root, nv, .int .i64 q.cur, .int .u64 q.v, .int .u64 q.mn, .int .i64 q.load, wv] 28 (0, 0))
/-- What lies behind its slices. -/
structure Qd (w : World) (q : Q) (nv wv : Value) : Prop where
  nds : Nds w nv q.t.ns
  ints : Ints .i64 w wv q.ws
  uv : U q.v
  um : U q.mn
  ic : I q.cur
section
variable {w w' : World} {p : Nat} {q : Q} {nv wv : Value}
theorem Qd.below (h : Qd w q nv wv) (hb : Below w.heap.size w w') : Qd w' q nv wv := ⟨h.nds.below hb, h.ints.below hb, h.uv, h.um, h.ic⟩
theorem Qb.new (w : World) (q : Q) (nv wv : Value) : Qb (w.alloc (.cells #[.int .i64 q.t.root, nv, .int .i64 q.cur, .int .u64 q.v, .int .u64 q.mn, .int .i64 q.load, wv] 28)) w.heap.size q nv wv := heap_alloc_new _ _
theorem Qb.lt (h : Qb w p q nv wv) : p < w.heap.size := (Array.getElem?_eq_some_iff.1 h).1
theorem Qb.below {B : Nat} (h : Qb w p q nv wv) (hb : Below B w w') (hq : p < B) : Qb w' p q nv wv := (hb.block p hq).trans h
theorem Qb.gr (h : Qb w p q nv wv) (hg : Gr w w') : Qb w' p q nv wv := h.below hg.below h.lt
theorem Qb.all (h : Qb w p q nv wv) : w.cell? ⟨p, 0, none⟩ = some (.int .i64 q.t.root) ∧ w.cell? ⟨p, 1, none⟩ = some nv ∧ w.cell? ⟨p, 2, none⟩ = some (.int .i64 q.cur) ∧ w.cell? ⟨p, 3, none⟩ = some (.int .u64 q.v) ∧ w.cell? ⟨p, 4, none⟩ = some (.int .u64 q.mn) ∧ w.cell? ⟨p, 5, none⟩ = some (.int .i64 q.load) ∧ w.cell? ⟨p, 6, none⟩ = some wv := by
  have h' : w.heap[p]? = _ := h
  refine ⟨?_, ?_, ?_, ?_, ?_, ?_, ?_⟩ <;> simp [World.cell?, h']
theorem Qb.free (h : Qb w p q nv wv) : w.frozen? ⟨p, 0, none⟩ = false ∧ w.frozen? ⟨p, 1, none⟩ = false ∧ w.frozen? ⟨p, 2, none⟩ = false ∧ w.frozen? ⟨p, 3, none⟩ = false ∧ w.frozen? ⟨p, 4, none⟩ = false ∧ w.frozen? ⟨p, 5, none⟩ = false ∧ w.frozen? ⟨p, 6, none⟩ = false := by
  have h' : w.heap[p]? = _ := h
  refine ⟨?_, ?_, ?_, ?_, ?_, ?_, ?_⟩ <;> simp [World.frozen?, h']
end

set_option maxRecDepth 100000 in
theorem isTask_any (q : Q) {a : Option Addr} {n c : Nat} (wv : Value) (hn : n = q.t.ns.length) (id : Int) (W : World) :
    Calls Tryz.prog 92 #[qv q (.slice a n c) wv, .int .i64 id] W fun e w' => e = .returned (.bool (decide (q.t.has id))) ∧ Gr W w' := by
  have HQ := Lib.hid (Qb.new W q (.slice a n c) wv)
  have HG := Lib.hid (Gr.alloc W (.cells #[.int .i64 q.t.root, .slice a n c, .int .i64 q.cur, .int .u64 q.v, .int .u64 q.mn, .int .i64 q.load, wv] 28))
  have HD : Hid (decide (q.t.has id) = (decide (0 ≤ id) && decide (id < (n : Int)))) := Lib.hid (by rw [hn, ← Bool.decide_and]; rfl)
  clear hn
  unfold qv
  go_enter Tryz.func92, Tryz.ntmps92
  go_upto_region 1 with fail
  generalize W.heap.size = p at HQ ⊢
  generalize W.alloc _ = w1 at HQ HG ⊢
  obtain ⟨-, h1, -⟩ := HQ.out.all
  by_cases h : 0 ≤ id
  · have HE : Hid ((decide (0 ≤ id) && decide (id < (n : Int))) = decide (id < (n : Int))) := Lib.hid (by simp [h])
    go_wp2
    go_ret
    exact ⟨by rw [HD.out, HE.out]; rfl, HG.out⟩
  · have HE : Hid ((decide (0 ≤ id) && decide (id < (n : Int))) = false) := Lib.hid (by simp [h])
    go_wp2
    go_ret
    exact ⟨by rw [HD.out, HE.out]; rfl, HG.out⟩

set_option maxRecDepth 100000 in
theorem isHere_any (q : Q) {nv wv : Value} {id : Int} (hid : q.t.has id) {W : World} (hN : Nds W nv q.t.ns) :
    Calls Tryz.prog 96 #[qv q nv wv, .int .i64 id] W fun e w' => e = .returned (.bool (q.here id)) ∧ Gr W w' := by
  obtain ⟨j, rfl⟩ := Int.eq_ofNat_of_zero_le hid.1
  have hj : j < q.t.ns.length := by have := hid.2; omega
  rcases hN.parts with ⟨h0, -⟩ | ⟨-, nb, off, c, rfl, hc, hb, hcell⟩
  · rw [h0] at hj; simp at hj
  have HQ := Lib.hid (Qb.new W q (.slice (some ⟨nb, off, none⟩) q.t.ns.length c) wv)
  have HG := Lib.hid (Gr.alloc W (.cells #[.int .i64 q.t.root, .slice (some ⟨nb, off, none⟩) q.t.ns.length c, .int .i64 q.cur, .int .u64 q.v, .int .u64 q.mn, .int .i64 q.load, wv] 28))
  have HI : Hid ((q.t.nd j).inn = (q.t.ns.getD j nE).inn) := Lib.hid (by simp [T.nd])
  have HC := Lib.hid (HG.out.cell (hcell j hj).1)
  rw [← HI.out] at HC
  have HH : Hid (q.here j = (decide ((j : Int) = q.cur) || (q.t.nd j).inn)) := Lib.hid rfl
  generalize (q.t.nd j).inn = r at HC HH
  clear hcell HI hid hN
  unfold qv
  generalize q.t.ns.length = n at *
  go_enter Tryz.func96, Tryz.ntmps96
  go_upto_region 1 with fail
  generalize W.heap.size = p at HQ ⊢
  generalize W.alloc _ = w1 at HQ HG HC ⊢
  obtain ⟨-, h1, h2, -⟩ := HQ.out.all
  have c0 := HC.out
  by_cases h : (j : Int) = q.cur
  · have HE : Hid ((decide ((j : Int) = q.cur) || r) = true) := Lib.hid (by simp [h])
    have he : ((j : Int) == q.cur) = true := by rw [h]; simp
    clear h
    go_wp2
    go_ret
    exact ⟨by rw [HH.out, HE.out]; rfl, HG.out⟩
  · have HE : Hid ((decide ((j : Int) = q.cur) || r) = r) := Lib.hid (by simp [h])
    have he : ((j : Int) == q.cur) = false := by simpa using h
    go_wp2
    go_ret
    exact ⟨by rw [HH.out, HE.out]; rfl, HG.out⟩

set_option maxRecDepth 100000 in
theorem isWeight_any (x : Int) (W : World) (hT : Tab W) :
    Calls Tryz.prog 94 #[.int .i64 x] W fun e w' => e = .returned (.bool (decide (wOkN x))) ∧ W = w' := by
  have HO : Hid (Calls Tryz.prog 129 #[.int .i64 (-20)] W fun e w' => e = .returned (.tuple #[.int .i64 88761, .int .i64 0]) ∧ W = w') := Lib.hid (of_yes (-20) (by decide) W hT)
  have HX : Hid (decide (wOkN x) = (clampN x 1 88761 == x)) := Lib.hid (by
    have := clamp_eq x 1 88761
    unfold wOkN
    by_cases h : clampN x 1 88761 = x
    · rw [beq_iff_eq.2 h, decide_eq_true (this.1 h)]
    · rw [beq_eq_false_iff_ne.2 h, decide_eq_false (fun k => h (this.2 k))])
  go_enter Tryz.func94, Tryz.ntmps94
  go_wp2_with fail
  refine (HO.out).mono ?_
  rintro e' w' ⟨rfl, rfl⟩
  go_wp2_with fail
  refine (clamp_any x 1 88761 W).mono ?_
  rintro e' w' ⟨rfl, rfl⟩
  generalize clampN x 1 88761 = y at HX
  go_wp2
  go_ret
  exact ⟨by rw [HX.out]; rfl, rfl⟩

/-- A queue's cells, as an object. -/
def qo (q : Q) (nv wv : Value) : Obj := .cells #[.int .i64 q.t.root, nv, .int .i64 q.cur, .int .u64 q.v, .int .u64 q.mn, .int .i64 q.load, wv] 28

set_option maxRecDepth 100000 in
theorem running_any (q : Q) (nv wv : Value) (W : World) :
    Calls Tryz.prog 63 #[qv q nv wv] W fun e w' => e = .returned (.agg #[.int .u64 q.v, .int .i64 q.cur]) ∧ Below W.heap.size W w' := by
  have HQ := Lib.hid ((Qb.new W q nv wv).gr (Gr.alloc _ (.cells #[.int .u64 0, .int .i64 0] 57)))
  have HB := Lib.hid (((Gr.alloc W (qo q nv wv)).trans (Gr.alloc _ (.cells #[.int .u64 0, .int .i64 0] 57))).below)
  have HK : Hid (Kb ((W.alloc (qo q nv wv)).alloc (.cells #[.int .u64 0, .int .i64 0] 57)) (W.heap.size + 1) (0, 0)) := Lib.hid (by
    have := Kb.new (W.alloc (qo q nv wv)) (0, 0)
    rw [show (W.alloc (qo q nv wv)).heap.size = W.heap.size + 1 by simp] at this
    exact this)
  unfold qo at HB HK
  unfold qv
  go_enter Tryz.func63, Tryz.ntmps63
  go_upto_region 1 with fail
  generalize (W.alloc _).alloc _ = w2 at HQ HB HK ⊢
  obtain ⟨-, -, h2, h3, -⟩ := HQ.out.all
  obtain ⟨g0, g1, g2, g3, -⟩ := HK.out.all
  have HKS := Lib.hid (HK.out.store (q.v, q.cur)).all
  have HFS := Lib.hid ((HB.out.setCell (p := ⟨W.heap.size + 1, 0, none⟩) (by show W.heap.size ≤ W.heap.size + 1; omega) (.int .u64 q.v)).setCell (p := ⟨W.heap.size + 1, 1, none⟩) (by show W.heap.size ≤ W.heap.size + 1; omega) (.int .i64 q.cur))
  clear HQ HB HK
  go_wp2
  obtain ⟨s0, s1, -⟩ := HKS.out
  exact bodyPost_ret (v := .agg #[.int .u64 q.v, .int .i64 q.cur]) (by simp [results, Tryz.results63, go_sem, s0, s1]) rfl ⟨rfl, HFS.out⟩

set_option maxRecDepth 100000 in
set_option maxHeartbeats 1000000 in
theorem curRight_any {q : Q} {nv wv : Value} {W : World} (hN : Nds W nv q.t.ns) :
    Calls Tryz.prog 69 #[qv q nv wv] W fun e w' => e = .returned (.bool (decide (curOk q))) ∧ Below W.heap.size W w' := by
  have HN := Lib.hid hN
  obtain ⟨a, c, rfl, -, -⟩ := hN.len
  have HQ := Lib.hid (Qb.new W q (.slice a q.t.ns.length c) wv)
  have HG := Lib.hid (Gr.alloc W (qo q (.slice a q.t.ns.length c) wv))
  unfold qo at HG
  clear hN
  unfold qv
  by_cases h : q.cur = -1
  · have HE : Hid (decide (curOk q) = (q.v == 0)) := Lib.hid (by
      have hn : ¬ q.t.has q.cur := by unfold T.has; omega
      rw [show (q.v == 0) = decide (q.v = 0) from rfl]
      exact decide_eq_decide.2 ⟨fun k => k.elim (·.2) (fun k => absurd k.1 hn), fun k => .inl ⟨h, k⟩⟩)
    have HH := Lib.hid h
    clear h
    go_enter Tryz.func69, Tryz.ntmps69
    go_upto_region 1 with fail
    generalize W.heap.size = p at HQ ⊢
    generalize W.alloc _ = w1 at HQ HG ⊢
    obtain ⟨-, -, h2, h3, -⟩ := HQ.out.all
    rw [HH.out] at h2
    go_wp2
    go_ret
    exact ⟨by rw [HE.out]; rfl, HG.out.below⟩
  · have HT : Hid (∀ X, Calls Tryz.prog 92 #[qv q (.slice a q.t.ns.length c) wv, .int .i64 q.cur] X fun e w' => e = .returned (.bool (decide (q.t.has q.cur))) ∧ Gr X w') := Lib.hid (fun X => isTask_any q wv rfl q.cur X)
    unfold qv at HT
    have he : (q.cur == -1) = false := by simpa using h
    by_cases ht : q.t.has q.cur
    · rw [decide_eq_true ht] at HT
      obtain ⟨j, hj0⟩ := Int.eq_ofNat_of_zero_le ht.1
      have hj : j < q.t.ns.length := by have := ht.2; omega
      rcases HN.out.parts with ⟨h0, -⟩ | ⟨-, nb, off, c', hv, hc, hb, hcell⟩
      · rw [h0] at hj; simp at hj
      simp only [Value.slice.injEq] at hv
      obtain ⟨rfl, -, rfl⟩ := hv
      have HE : Hid (decide (curOk q) = !(q.t.nd q.cur).inn) := Lib.hid (by
        have e : decide (curOk q) = decide ((q.t.nd q.cur).inn = false) := decide_eq_decide.2 ⟨fun k => k.elim (fun k => absurd k.1 h) (·.2), fun k => .inr ⟨ht, k⟩⟩
        rw [e]
        generalize (q.t.nd q.cur).inn = r
        cases r <;> rfl)
      have HI : Hid ((q.t.ns.getD j nE).inn = (q.t.nd q.cur).inn) := Lib.hid (by rw [hj0]; simp [T.nd])
      have HC := Lib.hid (HG.out.cell (hcell j hj).1)
      rw [HI.out] at HC
      generalize (q.t.nd q.cur).inn = r at HC HE
      rw [hj0] at HT he
      clear hcell HI ht h HN
      have HJ0 := Lib.hid hj0
      clear hj0
      generalize q.t.ns.length = n at *
      go_enter Tryz.func69, Tryz.ntmps69
      go_upto_region 1 with fail
      generalize W.heap.size = p at HQ ⊢
      generalize W.alloc _ = w1 at HQ HG HC ⊢
      obtain ⟨h0, h1, h2, h3, h4, h5, h6⟩ := HQ.out.all
      rw [HJ0.out] at h2
      go_wp2_with fail
      refine (HT.out w1).mono ?_
      rintro e' w2 ⟨rfl, hg2⟩
      obtain ⟨h0, h1, h2, h3, h4, h5, h6⟩ := (HQ.out.gr hg2).all
      rw [HJ0.out] at h2
      have c0 := hg2.cell HC.out
      have HG2 := Lib.hid (HG.out.trans hg2)
      clear hg2
      go_wp2
      go_ret
      exact ⟨by rw [HE.out]; rfl, HG2.out.below⟩
    · rw [decide_eq_false ht] at HT
      have HE : Hid (decide (curOk q) = false) := Lib.hid (by unfold curOk; simp [h, ht])
      clear ht HN
      go_enter Tryz.func69, Tryz.ntmps69
      go_upto_region 1 with fail
      generalize W.heap.size = p at HQ ⊢
      generalize W.alloc _ = w1 at HQ HG ⊢
      obtain ⟨h0, h1, h2, h3, h4, h5, h6⟩ := HQ.out.all
      go_wp2_with fail
      refine (HT.out w1).mono ?_
      rintro e' w2 ⟨rfl, hg2⟩
      obtain ⟨h0, h1, h2, h3, h4, h5, h6⟩ := (HQ.out.gr hg2).all
      have HG2 := Lib.hid (HG.out.trans hg2)
      clear hg2
      go_wp2
      go_ret
      exact ⟨by rw [HE.out]; rfl, HG2.out.below⟩
end Go.Proofs.YtpmknpdnhfnfcaaGreatDoor

namespace Go.Proofs.YtpmknpdnhfnfcaaGreatDoor
open Go.RowKit Go.Sort Ky Wd Tn Tr Wg Qu

set_option maxRecDepth 100000 in
/-- What Walk tells of a whole tree is a slice of its own. -/
theorem Walk_own {W : World} {v : Value} {t : T} (hN : Nds W v t.ns) {b : B} (hb : Whole t b) :
    Calls Tryz.prog 105 #[tv t v] W fun e w' => (∃ vs B, e = .returned vs ∧ W.heap.size ≤ B ∧ B ≤ w'.heap.size ∧ OwnK w' B 57 vs b.keys) ∧ Below W.heap.size W w' := by
  have HB1 : Hid (Below W.heap.size W (W.alloc (.cells #[.int .i64 t.root, v] 24))) := Lib.hid ((Below.refl _ _).alloc (Nat.le_refl _) _)
  have HT := Lib.hid (Tp.copy hN HB1.out 112)
  have HB2 := Lib.hid (HB1.out.alloc HB1.out.size (.cells #[.int .i64 t.root, v] 112))
  have HWH := Lib.hid (whole_at HT.out)
  rw [show (W.alloc (.cells #[.int .i64 t.root, v] 24)).heap.size = W.heap.size + 1 by simp] at HT HWH
  obtain ⟨a, cap, rfl, hc1, hc2⟩ := hN.len
  unfold tv
  rw [decide_eq_true ((whole_iff t).2 ⟨b, hb⟩)] at HWH
  have HWB := Lib.hid hb
  have HKI := Lib.hid (HT.out.kin hb)
  clear hN hb
  go_enter Tryz.func105, Tryz.ntmps105
  go_wp2_with fail
  generalize (W.alloc (.cells #[.int .i64 t.root, .slice a t.ns.length cap] 24)).alloc (.cells #[.int .i64 t.root, .slice a t.ns.length cap] 112) = w2 at HT HB2 HWH ⊢
  refine HWH.out.mono ?_
  rintro e' w3 ⟨rfl, hB3⟩
  have c0 := (HT.out.below hB3).1
  have HB3 := Lib.hid hB3
  have HWK := Lib.hid (walk_at HT.out b (-1) w3 (.slice none 0 0) [] HWB.out.sub HKI.out (OwnK.nil w3 _ _) hB3 (by have := HWB.out.size; simp; omega))
  rw [← HWB.out.root] at HWK
  generalize t.root = x at c0 HWK
  clear hB3 HWH HT
  go_wp2_with fail
  refine HWK.out.mono ?_
  rintro e' w4 ⟨⟨vs, rfl, hO⟩, hB4⟩
  have HF := Lib.hid (And.intro (And.intro HB2.out.size (hB4.size)) (And.intro hO (HB2.out.trans (hB4.mono HB2.out.size))))
  clear HWK hO hB4 c0
  go_wp2
  go_ret
  exact ⟨⟨vs, w2.heap.size, rfl, HF.out.1.1, HF.out.1.2, by simpa using HF.out.2.1⟩, HF.out.2.2⟩

theorem run_no {q : Q} (h : q.cur = -1) : q.run = [] := by unfold Q.run; rw [if_pos h]
theorem run_yes {q : Q} (h : q.cur ≠ -1) : q.run = [(q.v, q.cur)] := by unfold Q.run; rw [if_neg h]
theorem run_kin {q : Q} (h1 : U q.v) (h2 : I q.cur) : ∀ x ∈ q.run, Kin x := by
  intro x hx
  unfold Q.run at hx
  split at hx
  · cases hx
  · obtain rfl := List.mem_singleton.1 hx; exact ⟨h1, h2⟩
theorem run_len (q : Q) : q.run.length ≤ 1 := by unfold Q.run; split <;> simp

set_option maxRecDepth 100000 in
set_option maxHeartbeats 1000000 in
theorem all_any {q : Q} {nv wv : Value} {W : World} (hQ : Qd W q nv wv) {b : B} (hb : Whole q.t b) :
    Calls Tryz.prog 73 #[qv q nv wv] W fun e w' => (∃ vs, e = .returned vs ∧ Keys w' vs (b.keys ++ q.run)) ∧ Below W.heap.size W w' := by
  obtain ⟨a, c, rfl, -, -⟩ := hQ.nds.len
  have HQ := Lib.hid (Qb.new W q (.slice a q.t.ns.length c) wv)
  have HB := Lib.hid (Gr.alloc W (qo q (.slice a q.t.ns.length c) wv)).below
  unfold qo at HB
  have HW := Lib.hid (Walk_own (hQ.nds.below HB.out) hb)
  have HKI := Lib.hid (fun x hx => Sub.keyU hQ.nds.us hb.len hb.sub x hx : ∀ x ∈ b.keys, Kin x)
  have HRK := Lib.hid (run_kin hQ.uv hQ.ic)
  have HUV := Lib.hid (And.intro hQ.uv hQ.ic)
  have HLN := Lib.hid hb.size
  clear hQ hb
  unfold tv at HW
  unfold qv
  by_cases h : q.cur = -1
  · have HR : Hid (b.keys ++ q.run = b.keys) := Lib.hid (by rw [run_no h]; simp)
    have HH := Lib.hid h
    clear h
    go_enter Tryz.func73, Tryz.ntmps73
    go_upto_region 1 with fail
    generalize W.heap.size = p at HQ ⊢
    generalize W.alloc _ = w1 at HQ HB HW ⊢
    obtain ⟨h0, h1, -⟩ := HQ.out.all
    go_wp2_with fail
    refine HW.out.mono ?_
    rintro e' w2 ⟨⟨vs, B, rfl, -, -, hO⟩, hb2⟩
    obtain ⟨-, -, h2, -⟩ := (HQ.out.below hb2 HQ.out.lt).all
    rw [HH.out] at h2
    have HF := Lib.hid (And.intro (hO.keys HKI.out) (HB.out.trans (hb2.mono HB.out.size)))
    clear hO hb2
    go_wp2
    go_ret
    exact ⟨⟨vs, rfl, by rw [HR.out]; exact HF.out.1⟩, HF.out.2⟩
  · have HR : Hid (b.keys ++ q.run = b.keys ++ [(q.v, q.cur)]) := Lib.hid (by rw [run_yes h])
    have HRN : Hid (∀ X, Calls Tryz.prog 63 #[qv q (.slice a q.t.ns.length c) wv] X fun e w' => e = .returned (.agg #[.int .u64 q.v, .int .i64 q.cur]) ∧ Below X.heap.size X w') := Lib.hid (fun X => running_any q _ _ X)
    unfold qv at HRN
    have he : (q.cur == -1) = false := by simpa using h
    clear h
    go_enter Tryz.func73, Tryz.ntmps73
    go_upto_region 1 with fail
    generalize W.heap.size = p at HQ ⊢
    generalize W.alloc _ = w1 at HQ HB HW ⊢
    obtain ⟨h0, h1, -⟩ := HQ.out.all
    go_wp2_with fail
    refine HW.out.mono ?_
    rintro e' w2 ⟨⟨vs, B, rfl, hB1, hB2, hO⟩, hb2⟩
    have HQ2 := Lib.hid (HQ.out.below hb2 HQ.out.lt)
    have HF2 := Lib.hid (HB.out.trans (hb2.mono HB.out.size))
    have HBB := Lib.hid (And.intro (Nat.le_trans HB.out.size hB1) hB2)
    have HO := Lib.hid hO
    clear hO hb2 hB1 hB2 HW HB h0 h1
    obtain ⟨h0, h1, h2, h3, h4, h5, h6⟩ := HQ2.out.all
    go_wp2_with fail
    refine (HRN.out w2).mono ?_
    rintro e' w3 ⟨rfl, hb3⟩
    have HO3 := Lib.hid ((HO.out.below hb3).alloc (.cells #[.int .u64 q.v, .int .i64 q.cur] 57))
    have HF3 := Lib.hid ((HF2.out.trans (hb3.mono HF2.out.size)).alloc (HF2.out.trans (hb3.mono HF2.out.size)).size (.cells #[.int .u64 q.v, .int .i64 q.cur] 57))
    have HK3 := Lib.hid (one_new w3 (q.v, q.cur) HUV.out)
    have HSZ : Hid (B ≤ (w3.alloc (.cells #[.int .u64 q.v, .int .i64 q.cur] 57)).heap.size) := Lib.hid (by have := hb3.size; have := HBB.out.2; simp; omega)
    clear hb3 h0 h1 h2 h3 h4 h5 h6 HO
    go_wp2_with (at_builtin; refine wpList_append_keys rfl (.tmp 10) (.tmp 13) 54 rfl B 57 Tryz.underlying54 info_key (by decide) b.keys [(q.v, q.cur)] HO3.out HK3.out (by have := HLN.out; simp; omega) HSZ.out ?_; intro v4 w4 hO4 hb4)
    have HF4 := Lib.hid (And.intro (hO4.keys (fun x hx => by
      rcases List.mem_append.1 hx with hx | hx
      · exact HKI.out x hx
      · obtain rfl := List.mem_singleton.1 hx; exact HUV.out)) (HF3.out.trans (hb4.mono HBB.out.1)))
    clear hO4 hb4
    go_wp2
    go_ret
    exact ⟨⟨v4, rfl, by rw [HR.out]; exact HF4.out.1⟩, HF4.out.2⟩
end Go.Proofs.YtpmknpdnhfnfcaaGreatDoor

namespace Go.Proofs.YtpmknpdnhfnfcaaGreatDoor
open Go.RowKit Go.Sort Ky Wd Tn Tr Wg Qu

theorem clamp_far (k : K) (m : Int) : (clampN (lagN k.1 m) (-1125899906842624) 1125899906842624 != lagN k.1 m) = !decide (lagOk m k) := by
  have h0 : lagOk m k ↔ clampN (lagN k.1 m) (-1125899906842624) 1125899906842624 = lagN k.1 m := (clamp_eq (lagN k.1 m) (-1125899906842624) 1125899906842624).symm
  by_cases h : lagOk m k
  · rw [decide_eq_true h, h0.1 h]; simp
  · rw [decide_eq_false h]; simpa using fun e => h (h0.2 e)

set_option maxRecDepth 100000 in
set_option maxHeartbeats 1000000 in
theorem lagsRight_any {q : Q} {nv wv : Value} {W : World} (hQ : Qd W q nv wv) {b : B} (hb : Whole q.t b) :
    Calls Tryz.prog 71 #[qv q nv wv] W fun e w' => e = .returned (.bool (decide (∀ k ∈ b.keys ++ q.run, lagOk q.mn k))) ∧ Below W.heap.size W w' := by
  obtain ⟨a, c, rfl, -, -⟩ := hQ.nds.len
  have HQ := Lib.hid (Qb.new W q (.slice a q.t.ns.length c) wv)
  have HB := Lib.hid (Gr.alloc W (qo q (.slice a q.t.ns.length c) wv)).below
  unfold qo at HB
  have HA := Lib.hid (all_any (hQ.below HB.out) hb)
  have HLN := Lib.hid (show (b.keys ++ q.run).length ≤ 65 by have := hb.size; have := run_len q; simp only [List.length_append]; omega)
  clear hQ hb
  unfold qv at HA
  unfold qv
  generalize b.keys ++ q.run = l at HA HLN ⊢
  have hl : l.length ≤ 65 := HLN.out
  go_enter Tryz.func71, Tryz.ntmps71
  go_upto_region 1 with fail
  generalize W.heap.size = p at HQ ⊢
  generalize W.alloc _ = w1 at HQ HB HA ⊢
  obtain ⟨h0, h1, h2, h3, h4, h5, h6⟩ := HQ.out.all
  go_wp2_with fail
  refine HA.out.mono ?_
  rintro e' w2 ⟨⟨vs, rfl, hK⟩, hb2⟩
  have HQ2 := Lib.hid (HQ.out.below hb2 HQ.out.lt)
  have HB2 := Lib.hid (HB.out.trans (hb2.mono HB.out.size))
  have HK := Lib.hid hK
  obtain ⟨al, cl, rfl, hm, -, -⟩ := hK
  clear hb2 h0 h1 h2 h3 h4 h5 h6 HA
  unfold maxLen at hm
  go_wp2
  go_loopw [9] (fun i wr => ∃ j : Nat, j ≤ l.length ∧ i = .int .i64 j ∧ Hid ((∀ k ∈ l.take j, lagOk q.mn k) ∧ Below w2.heap.size w2 wr)) (fun i _ => l.length - (intOf i).toNat)
  case atStart => exact ⟨0, by omega, rfl, Lib.hid ⟨by simp, Below.refl _ _⟩⟩
  case round =>
    obtain ⟨j, hj, rfl, HJ⟩ := hrel
    by_cases hlt : j < l.length
    · rcases HK.out.parts with ⟨e, -⟩ | ⟨-, bk, off, cl', hv, -, hbk, hcell⟩
      · rw [e] at hlt; simp at hlt
      simp only [Value.slice.injEq] at hv
      obtain ⟨rfl, -, rfl⟩ := hv
      obtain ⟨x, hx⟩ : ∃ x, l.getD j (0, 0) = x := ⟨_, rfl⟩
      have cc := hcell j hlt
      rw [hx] at cc
      have c0 := (HJ.out.2.cell (p := ⟨bk, off + j * 2, none⟩) hbk).trans cc.1
      have c1 := (HJ.out.2.cell (p := ⟨bk, off + j * 2 + 1, none⟩) hbk).trans cc.2
      have HX : Hid (x ∈ l ∧ ∀ y ∈ l.take (j + 1), y ∈ l.take j ∨ y = x) := Lib.hid (by
        refine ⟨by rw [← hx]; simp [List.getD, hlt], fun y hy => ?_⟩
        rw [take_snocK l j hlt, hx] at hy
        simpa using hy)
      have HKB := Lib.hid (Kb.new wr x)
      have HBA := Lib.hid (HJ.out.2.alloc HJ.out.2.size (.cells #[.int .u64 x.1, .int .i64 x.2] 57))
      have HQA := Lib.hid (HQ2.out.below HBA.out HQ2.out.lt)
      have HP := Lib.hid HJ.out.1
      clear hcell hx cc HJ
      go_upto_region 4 with fail
      generalize wr.heap.size = pk at HKB ⊢
      generalize wr.alloc _ = w3 at HKB HBA HQA ⊢
      obtain ⟨k0, k1, -, -, -⟩ := HKB.out.all
      obtain ⟨-, -, -, -, h4, -, -⟩ := HQA.out.all
      go_wp2_with fail
      refine (lag_any x.1 q.mn w3).mono ?_
      rintro e' w' ⟨rfl, rfl⟩
      go_wp2_with fail
      refine (clamp_any (lagN x.1 q.mn) (-1125899906842624) 1125899906842624 w3).mono ?_
      rintro e' w' ⟨rfl, rfl⟩
      have HCF := Lib.hid (clamp_far x q.mn)
      by_cases hg : lagOk q.mn x
      · rw [decide_eq_true hg] at HCF
        have hne := HCF.out
        simp only [Bool.not_true] at hne
        have HG := Lib.hid hg
        clear hg
        generalize clampN (lagN x.1 q.mn) (-1125899906842624) 1125899906842624 = y1 at hne ⊢
        generalize lagN x.1 q.mn = y2 at hne ⊢
        go_wp2
        refine ⟨⟨j + 1, by omega, by go_num, Lib.hid ⟨fun y hy => ?_, HBA.out⟩⟩, by simp [intOf]; omega⟩
        rcases HX.out.2 y hy with h | rfl
        · exact HP.out y h
        · exact HG.out
      · rw [decide_eq_false hg] at HCF
        have hne := HCF.out
        simp only [Bool.not_false] at hne
        have HE : Hid (decide (∀ k ∈ l, lagOk q.mn k) = false) := Lib.hid (decide_eq_false (fun h => hg (h x HX.out.1)))
        clear hg
        generalize clampN (lagN x.1 q.mn) (-1125899906842624) 1125899906842624 = y1 at hne ⊢
        generalize lagN x.1 q.mn = y2 at hne ⊢
        go_wp2
        go_ret
        exact ⟨by rw [HE.out]; rfl, HB2.out.trans (HBA.out.mono HB2.out.size)⟩
    · obtain rfl : j = l.length := by omega
      have HE : Hid (decide (∀ k ∈ l, lagOk q.mn k) = true) := Lib.hid (decide_eq_true (by have := HJ.out.1; rwa [List.take_length] at this))
      go_wp2
      go_ret
      exact ⟨by rw [HE.out]; rfl, HB2.out.trans (HJ.out.2.mono HB2.out.size)⟩

theorem take_snocI (l : List Int) (k : Nat) (hk : k < l.length) : l.take (k + 1) = l.take k ++ [l.getD k 0] := by
  rw [List.take_add_one]; simp [List.getD, hk]

set_option maxRecDepth 100000 in
set_option maxHeartbeats 2000000 in
theorem weightsRight_any {q : Q} {nv wv : Value} {W : World} (hT : Tab W) (hQ : Qd W q nv wv) (hlen : q.t.ns.length ≤ 64) :
    Calls Tryz.prog 70 #[qv q nv wv] W fun e w' => e = .returned (.bool (decide (wsOk q))) ∧ Below W.heap.size W w' := by
  obtain ⟨a, c, rfl, hc1, hc2⟩ := hQ.nds.len
  have HD := Lib.hid hQ
  obtain ⟨aw, cw, rfl, hm, -, -⟩ := hQ.ints
  have HQ := Lib.hid (Qb.new W q (.slice a q.t.ns.length c) (.slice aw q.ws.length cw))
  have HB := Lib.hid (Gr.alloc W (qo q (.slice a q.t.ns.length c) (.slice aw q.ws.length cw))).below
  unfold qo at HB
  have HH : Hid (∀ X i, Below W.heap.size W X → q.t.has i → Calls Tryz.prog 96 #[qv q (.slice a q.t.ns.length c) (.slice aw q.ws.length cw), .int .i64 i] X fun e w' => e = .returned (.bool (q.here i)) ∧ Gr X w') := Lib.hid (fun X i hX hi => isHere_any q hi (hQ.nds.below hX))
  have HT := Lib.hid hT
  have HLN := Lib.hid hlen
  unfold qv at HH
  clear hT hQ
  unfold maxLen at hm hc2
  by_cases hl : q.ws.length = q.t.ns.length
  · have HLE := Lib.hid hl
    have he : ((q.ws.length : Int) != (q.t.ns.length : Int)) = false := by rw [hl]; simp
    clear hl
    unfold qv
    go_enter Tryz.func70, Tryz.ntmps70
    go_upto_region 1 with fail
    generalize W.heap.size = p at HQ ⊢
    generalize W.alloc _ = w1 at HQ HB ⊢
    obtain ⟨h0, h1, h2, h3, h4, h5, h6⟩ := HQ.out.all
    go_wp2
    go_loopw [3, 17] (fun s i wr => ∃ (j : Nat) (sn : Int), j ≤ q.ws.length ∧ i = .int .i64 j ∧ s = .int .i64 sn ∧ Hid (sn = (q.ws.take j).sum ∧ 0 ≤ sn ∧ sn ≤ 88761 * j ∧ (∀ k, k < j → wAt q k) ∧ Below w1.heap.size w1 wr)) (fun _ i _ => q.ws.length - (intOf i).toNat)
    case atStart => exact ⟨0, 0, by omega, rfl, rfl, Lib.hid ⟨by simp, by omega, by omega, fun k hk => absurd hk (Nat.not_lt_zero _), Below.refl _ _⟩⟩
    case round =>
      obtain ⟨j, sn, hj, rfl, rfl, HJ⟩ := hrel
      by_cases hlt : j < q.ws.length
      · rcases HD.out.ints.parts with ⟨e, -⟩ | ⟨-, -, bk, off, cl', hv, hbk, hcell⟩
        · rw [e] at hlt; simp at hlt
        simp only [Value.slice.injEq] at hv
        obtain ⟨rfl, -, rfl⟩ := hv
        obtain ⟨x, hx⟩ : ∃ x, q.ws.getD j 0 = x := ⟨_, rfl⟩
        have cc := hcell j hlt
        rw [hx] at cc
        have HBW := Lib.hid (HB.out.trans (HJ.out.2.2.2.2.mono HB.out.size))
        have c0 := (HBW.out.cell (p := ⟨bk, off + j, none⟩) hbk).trans cc
        have hs0 := HJ.out.2.1
        have hs1 : sn ≤ 88761 * 64 := by have := HJ.out.2.2.1; have := HLN.out; have := HLE.out; omega
        have HSUM : Hid ((q.ws.take (j + 1)).sum = sn + x) := Lib.hid (by rw [take_snocI _ _ hlt, hx, List.sum_append, HJ.out.1]; simp)
        have HX : Hid (q.ws.getD j 0 = x) := Lib.hid hx
        have HJS := Lib.hid (And.intro HJ.out.2.2.1 HJ.out.2.2.2.1)
        have HQR := Lib.hid (HQ.out.below HJ.out.2.2.2.2 HQ.out.lt)
        have HBR := Lib.hid HJ.out.2.2.2.2
        have HH1 := Lib.hid (HH.out wr j HBW.out ⟨by omega, by have := HLE.out; omega⟩)
        have HHJ : Hid (∀ X, Below W.heap.size W X → Calls Tryz.prog 96 #[.agg #[.int .i64 q.t.root, .slice a q.t.ns.length c, .int .i64 q.cur, .int .u64 q.v, .int .u64 q.mn, .int .i64 q.load, .slice (some ⟨bk, off, none⟩) q.ws.length cw], .int .i64 j] X fun e w' => e = .returned (.bool (q.here j)) ∧ Gr X w') := Lib.hid (fun X hX => HH.out X j hX ⟨by omega, by have := HLE.out; omega⟩)
        have HAT : Hid (wAt q j ↔ ((q.here j = true ∧ wOkN x) ∨ (q.here j = false ∧ x = 0))) := Lib.hid (by unfold wAt; rw [hx])
        have HNO : Hid (¬ wAt q j → decide (wsOk q) = false) := Lib.hid (fun h => decide_eq_false (fun k => h (k.2.1 j hlt)))
        obtain ⟨h0, h1, h2, h3, h4, h5, h6⟩ := HQR.out.all
        clear hx hcell cc HJ HH
        generalize q.here j = r at HH1 HHJ HAT
        cases r with
        | true =>
          go_wp2_with fail
          refine HH1.out.mono ?_
          rintro e' w2 ⟨rfl, hg2⟩
          have HB2 := Lib.hid (HBW.out.trans (hg2.below.mono HBW.out.size))
          have HBR2 := Lib.hid (HBR.out.trans (hg2.below.mono HBR.out.size))
          have HQ2 := Lib.hid (HQR.out.gr hg2)
          clear HH1 hg2 h0 h1 h2 h3 h4 h5 h6
          obtain ⟨h0, h1, h2, h3, h4, h5, h6⟩ := HQ2.out.all
          go_wp2_with fail
          refine (isWeight_any x w2 (HT.out.below HB2.out)).mono ?_
          rintro e' w' ⟨rfl, rfl⟩
          by_cases hw : wOkN x
          · have HW := Lib.hid hw
            have hx1 := hw.1
            have hx2 := hw.2
            rw [decide_eq_true hw]
            clear hw
            have HH2 := Lib.hid (HHJ.out w2 HB2.out)
            go_wp2_with fail
            refine HH2.out.mono ?_
            rintro e' w3 ⟨rfl, hg3⟩
            have HBR3 := Lib.hid (HBR2.out.trans (hg3.below.mono HBR2.out.size))
            clear hg3 HH2 h0 h1 h2 h3 h4 h5 h6
            go_wp2
            refine ⟨⟨j + 1, sn + x, by omega, by go_num, by go_num, Lib.hid ⟨HSUM.out.symm, by omega, by have := HJS.out.1; omega, fun k hk => ?_, HBR3.out⟩⟩, by simp [intOf]; omega⟩
            rcases (show k < j ∨ k = j by omega) with h | rfl
            · exact HJS.out.2 k h
            · exact HAT.out.2 (.inl ⟨by trivial, HW.out⟩)
          · have HE : Hid (decide (wsOk q) = false) := Lib.hid (HNO.out (fun h => (HAT.out.1 h).elim (fun k => hw k.2) (fun k => by cases k.1)))
            rw [decide_eq_false hw]
            clear hw
            go_wp2
            go_ret
            exact ⟨by rw [HE.out]; rfl, HB2.out⟩
        | false =>
          go_wp2_with fail
          refine HH1.out.mono ?_
          rintro e' w2 ⟨rfl, hg2⟩
          have HB2 := Lib.hid (HBW.out.trans (hg2.below.mono HBW.out.size))
          have HBR2 := Lib.hid (HBR.out.trans (hg2.below.mono HBR.out.size))
          have HQ2 := Lib.hid (HQR.out.gr hg2)
          clear HH1 hg2 h0 h1 h2 h3 h4 h5 h6
          obtain ⟨h0, h1, h2, h3, h4, h5, h6⟩ := HQ2.out.all
          have HH2 := Lib.hid (HHJ.out w2 HB2.out)
          go_wp2_with fail
          refine HH2.out.mono ?_
          rintro e' w3 ⟨rfl, hg3⟩
          have HB3 := Lib.hid (HB2.out.trans (hg3.below.mono HB2.out.size))
          have HBR3 := Lib.hid (HBR2.out.trans (hg3.below.mono HBR2.out.size))
          clear hg3 HH2 h0 h1 h2 h3 h4 h5 h6
          by_cases hw : x = 0
          · subst hw
            go_wp2
            refine ⟨⟨j + 1, sn, by omega, by go_num, by go_num, Lib.hid ⟨by rw [HSUM.out]; omega, by omega, by have := HJS.out.1; omega, fun k hk => ?_, HBR3.out⟩⟩, by simp [intOf]; omega⟩
            rcases (show k < j ∨ k = j by omega) with h | rfl
            · exact HJS.out.2 k h
            · exact HAT.out.2 (.inr ⟨by trivial, by trivial⟩)
          · have HE : Hid (decide (wsOk q) = false) := Lib.hid (HNO.out (fun h => (HAT.out.1 h).elim (fun k => by cases k.1) (fun k => hw k.2)))
            have hne : (x != 0) = true := by simpa using hw
            clear hw
            go_wp2
            go_ret
            exact ⟨by rw [HE.out]; rfl, HB3.out⟩
      · obtain rfl : j = q.ws.length := by omega
        have HE : Hid (decide (wsOk q) = (sn == q.load)) := Lib.hid (by
          have h1 := HJ.out.1
          rw [List.take_length] at h1
          rw [show (sn == q.load) = decide (sn = q.load) from rfl]
          exact decide_eq_decide.2 ⟨fun k => h1.trans k.2.2, fun k => ⟨HLE.out, HJ.out.2.2.2.1, h1.symm.trans k⟩⟩)
        have HBR := Lib.hid HJ.out.2.2.2.2
        obtain ⟨-, -, -, -, -, h5, -⟩ := (HQ.out.below HJ.out.2.2.2.2 HQ.out.lt).all
        clear HJ
        go_wp2
        go_ret
        exact ⟨by rw [HE.out]; rfl, HB.out.trans (HBR.out.mono HB.out.size)⟩
  · have he : ((q.ws.length : Int) != (q.t.ns.length : Int)) = true := by rw [bne_iff_ne]; omega
    have HE : Hid (decide (wsOk q) = false) := Lib.hid (decide_eq_false (fun k => hl k.1))
    clear hl
    unfold qv
    go_enter Tryz.func70, Tryz.ntmps70
    go_upto_region 1 with fail
    generalize W.heap.size = p at HQ ⊢
    generalize W.alloc _ = w1 at HQ HB ⊢
    obtain ⟨h0, h1, h2, h3, h4, h5, h6⟩ := HQ.out.all
    go_wp2
    go_ret
    exact ⟨by rw [HE.out]; rfl, HB.out⟩
end Go.Proofs.YtpmknpdnhfnfcaaGreatDoor

namespace Go.Proofs.YtpmknpdnhfnfcaaGreatDoor
open Go.RowKit Go.Sort Ky Wd Tn Tr Wg Qu

set_option maxRecDepth 100000 in
set_option maxHeartbeats 2000000 in
theorem Right_q {q : Q} {nv wv : Value} {W : World} (hT : Tab W) (hQ : Qd W q nv wv) (r : Bool) (hr : r = true ↔ RightQ q) :
    Calls Tryz.prog 24 #[qv q nv wv] W fun e w' => e = .returned (.bool r) ∧ Below W.heap.size W w' := by
  have HD := Lib.hid hQ
  obtain ⟨a, c, rfl, hc1, hc2⟩ := hQ.nds.len
  have HQ := Lib.hid (Qb.new W q (.slice a q.t.ns.length c) wv)
  have HB := Lib.hid (Gr.alloc W (qo q (.slice a q.t.ns.length c) wv)).below
  unfold qo at HB
  have HT := Lib.hid hT
  have HR := Lib.hid hr
  clear hT hQ hr
  by_cases h1 : RightP q.mn q.t
  · obtain ⟨b, hb, hrb⟩ := h1
    have HRT : Hid (∀ X, Below W.heap.size W X → Calls Tryz.prog 68 #[tv q.t (.slice a q.t.ns.length c), .int .u64 q.mn] X fun e w' => e = .returned (.bool true) ∧ Below X.heap.size X w') := Lib.hid (fun X hX => Right_at (HD.out.nds.below hX) q.mn true ⟨fun _ => ⟨b, hb, hrb⟩, fun _ => rfl⟩)
    have HCR : Hid (∀ X, Below W.heap.size W X → Calls Tryz.prog 69 #[qv q (.slice a q.t.ns.length c) wv] X fun e w' => e = .returned (.bool (decide (curOk q))) ∧ Below X.heap.size X w') := Lib.hid (fun X hX => curRight_any (HD.out.nds.below hX))
    have HWR : Hid (∀ X, Below W.heap.size W X → Calls Tryz.prog 70 #[qv q (.slice a q.t.ns.length c) wv] X fun e w' => e = .returned (.bool (decide (wsOk q))) ∧ Below X.heap.size X w') := Lib.hid (fun X hX => weightsRight_any (HT.out.below hX) (HD.out.below hX) hb.len)
    have HLR : Hid (∀ X, Below W.heap.size W X → Calls Tryz.prog 71 #[qv q (.slice a q.t.ns.length c) wv] X fun e w' => e = .returned (.bool (decide (∀ k ∈ b.keys ++ q.run, lagOk q.mn k))) ∧ Below X.heap.size X w') := Lib.hid (fun X hX => lagsRight_any (HD.out.below hX) hb)
    have HIF : Hid (r = true ↔ (curOk q ∧ wsOk q ∧ ∀ k ∈ b.keys ++ q.run, lagOk q.mn k)) := Lib.hid (by rw [HR.out, rightQ_iff hb]; unfold RightA; exact ⟨fun k => k.2, fun k => ⟨hrb, k⟩⟩)
    clear hb hrb HR HT
    unfold qv at HCR HWR HLR
    unfold tv at HRT
    unfold qv
    go_enter Tryz.func24, Tryz.ntmps24
    go_upto_region 1 with fail
    generalize W.heap.size = p at HQ ⊢
    generalize W.alloc _ = w1 at HQ HB ⊢
    obtain ⟨h0, h1, h2, h3, h4, h5, h6⟩ := HQ.out.all
    have HC := Lib.hid (HRT.out w1 HB.out)
    go_wp2_with fail
    refine HC.out.mono ?_
    rintro e' w2 ⟨rfl, hb2⟩
    have HQ2 := Lib.hid (HQ.out.below hb2 HQ.out.lt)
    have HB2 := Lib.hid (HB.out.trans (hb2.mono HB.out.size))
    clear HC hb2 h0 h1 h2 h3 h4 h5 h6 HQ HB HRT
    obtain ⟨h0, h1, h2, h3, h4, h5, h6⟩ := HQ2.out.all
    have HC := Lib.hid (HCR.out w2 HB2.out)
    go_wp2_with fail
    refine HC.out.mono ?_
    rintro e' w3 ⟨rfl, hb3⟩
    have HQ3 := Lib.hid (HQ2.out.below hb3 HQ2.out.lt)
    have HB3 := Lib.hid (HB2.out.trans (hb3.mono HB2.out.size))
    clear HC hb3 h0 h1 h2 h3 h4 h5 h6 HQ2 HB2 HCR
    by_cases hcu : curOk q
    · rw [decide_eq_true hcu]
      obtain ⟨h0, h1, h2, h3, h4, h5, h6⟩ := HQ3.out.all
      have HC := Lib.hid (HWR.out w3 HB3.out)
      go_wp2_with fail
      refine HC.out.mono ?_
      rintro e' w4 ⟨rfl, hb4⟩
      have HQ4 := Lib.hid (HQ3.out.below hb4 HQ3.out.lt)
      have HB4 := Lib.hid (HB3.out.trans (hb4.mono HB3.out.size))
      clear HC hb4 h0 h1 h2 h3 h4 h5 h6 HQ3 HB3 HWR
      by_cases hwu : wsOk q
      · rw [decide_eq_true hwu]
        obtain ⟨h0, h1, h2, h3, h4, h5, h6⟩ := HQ4.out.all
        have HC := Lib.hid (HLR.out w4 HB4.out)
        have HE : Hid (decide (∀ k ∈ b.keys ++ q.run, lagOk q.mn k) = r) := Lib.hid (by
          have := HIF.out
          by_cases h : ∀ k ∈ b.keys ++ q.run, lagOk q.mn k
          · rw [decide_eq_true h, this.2 ⟨hcu, hwu, h⟩]
          · rw [decide_eq_false h]
            cases r with
            | false => rfl
            | true => exact absurd (this.1 rfl).2.2 h)
        rw [HE.out] at HC
        clear hcu hwu
        go_wp2_with fail
        refine HC.out.mono ?_
        rintro e' w5 ⟨rfl, hb5⟩
        have HB5 := Lib.hid (HB4.out.trans (hb5.mono HB4.out.size))
        clear HC hb5 h0 h1 h2 h3 h4 h5 h6
        go_wp2
        go_ret
        exact ⟨rfl, HB5.out⟩
      · rw [decide_eq_false hwu]
        obtain rfl : r = false := by cases r with | false => rfl | true => exact absurd (HIF.out.1 rfl).2.1 hwu
        clear hcu hwu
        go_wp2
        go_ret
        exact ⟨rfl, HB4.out⟩
    · rw [decide_eq_false hcu]
      obtain rfl : r = false := by cases r with | false => rfl | true => exact absurd (HIF.out.1 rfl).1 hcu
      clear hcu
      go_wp2
      go_ret
      exact ⟨rfl, HB3.out⟩
  · obtain rfl : r = false := by
      cases r with
      | false => rfl
      | true => obtain ⟨b, hb, hrb, -⟩ := HR.out.1 rfl; exact absurd ⟨b, hb, hrb⟩ h1
    have HC := Lib.hid (Right_at (HD.out.nds.below HB.out) q.mn false ⟨fun k => (by cases k), fun k => absurd k h1⟩)
    clear h1 HR HT HD
    unfold tv at HC
    unfold qv
    go_enter Tryz.func24, Tryz.ntmps24
    go_upto_region 1 with fail
    generalize W.heap.size = p at HQ ⊢
    generalize W.alloc _ = w1 at HQ HB HC ⊢
    obtain ⟨h0, h1, h2, h3, h4, h5, h6⟩ := HQ.out.all
    go_wp2_with fail
    refine HC.out.mono ?_
    rintro e' w2 ⟨rfl, hb2⟩
    have HB2 := Lib.hid (HB.out.trans (hb2.mono HB.out.size))
    clear HC hb2 h0 h1 h2 h3 h4 h5 h6
    go_wp2
    go_ret
    exact ⟨rfl, HB2.out⟩

/-- There is one answer to whether it is right. -/
theorem right_bool (q : Q) : ∃ r : Bool, (r = true ↔ RightQ q) := by
  by_cases h : RightQ q
  · exact ⟨true, by simp [h]⟩
  · exact ⟨false, by simp [h]⟩

set_option maxRecDepth 100000 in
set_option maxHeartbeats 2000000 in
theorem Keys_q {q : Q} {nv wv : Value} {W : World} (hT : Tab W) (hQ : Qd W q nv wv) {l : List K} (hl : IsKeys q l) :
    Calls Tryz.prog 25 #[qv q nv wv] W fun e w' => (∃ vs, e = .returned vs ∧ Keys w' vs l) ∧ Below W.heap.size W w' := by
  have HD := Lib.hid hQ
  have HQ := Lib.hid (Qb.new W q nv wv)
  have HB := Lib.hid (Gr.alloc W (qo q nv wv)).below
  unfold qo at HB
  rcases hl with ⟨b, hb, hra, rfl⟩ | ⟨hno, rfl⟩
  · have HR := Lib.hid (Right_q (hT.below HB.out) (hQ.below HB.out) true ⟨fun _ => ⟨b, hb, hra⟩, fun _ => rfl⟩)
    have HAL : Hid (∀ X, Below W.heap.size W X → Calls Tryz.prog 73 #[qv q nv wv] X fun e w' => (∃ vs, e = .returned vs ∧ Keys w' vs (b.keys ++ q.run)) ∧ Below X.heap.size X w') := Lib.hid (fun X hX => all_any (HD.out.below hX) hb)
    have HSR : Hid (∀ X vs, Keys X vs (b.keys ++ q.run) → Calls Tryz.prog 72 #[.int .u64 q.mn, vs] X fun e w' => (∃ v', e = .returned v' ∧ Keys w' v' (srtK q.mn (b.keys ++ q.run))) ∧ Below X.heap.size X w') := Lib.hid (fun X vs h => sort_any q.mn h (by have := hb.size; have := run_len q; simp only [List.length_append]; omega))
    clear hb hra hT hQ HD
    generalize srtK q.mn (b.keys ++ q.run) = l2 at *
    generalize b.keys ++ q.run = l1 at *
    unfold qv at HR HAL
    unfold qv
    go_enter Tryz.func25, Tryz.ntmps25
    go_upto_region 1 with fail
    generalize W.heap.size = p at HQ ⊢
    generalize W.alloc _ = w1 at HQ HB HR ⊢
    obtain ⟨h0, h1, h2, h3, h4, h5, h6⟩ := HQ.out.all
    go_wp2_with fail
    refine HR.out.mono ?_
    rintro e' w2 ⟨rfl, hb2⟩
    have HQ2 := Lib.hid (HQ.out.below hb2 HQ.out.lt)
    have HB2 := Lib.hid (HB.out.trans (hb2.mono HB.out.size))
    clear hb2 h0 h1 h2 h3 h4 h5 h6 HQ HB HR
    have HSX : Hid (∀ X, Below w2.heap.size w2 X → (X.cell? ⟨p, 0, none⟩ = some (.int .i64 q.t.root) ∧ X.cell? ⟨p, 1, none⟩ = some nv ∧ X.cell? ⟨p, 2, none⟩ = some (.int .i64 q.cur) ∧ X.cell? ⟨p, 3, none⟩ = some (.int .u64 q.v) ∧ X.cell? ⟨p, 4, none⟩ = some (.int .u64 q.mn) ∧ X.cell? ⟨p, 5, none⟩ = some (.int .i64 q.load) ∧ X.cell? ⟨p, 6, none⟩ = some wv)) := Lib.hid (fun X hX => (HQ2.out.below hX HQ2.out.lt).all)
    obtain ⟨h0, h1, h2, h3, h4, h5, h6⟩ := HSX.out w2 (Below.refl _ _)
    have HZ : Hid (Below w2.heap.size w2 w2) := Lib.hid (Below.refl _ _)
    have HZD : Hid (Below w2.heap.size w2 w2.drew) := Lib.hid (Below.refl _ _).drew
    go_wp2_with fail
    go_region_held3 (fun X => X.cell? ⟨p, 0, none⟩ = some (.int .i64 q.t.root) ∧ X.cell? ⟨p, 1, none⟩ = some nv ∧ X.cell? ⟨p, 2, none⟩ = some (.int .i64 q.cur) ∧ X.cell? ⟨p, 3, none⟩ = some (.int .u64 q.v) ∧ X.cell? ⟨p, 4, none⟩ = some (.int .u64 q.mn) ∧ X.cell? ⟨p, 5, none⟩ = some (.int .i64 q.load) ∧ X.cell? ⟨p, 6, none⟩ = some wv)
      (first
        | with_reducible exact HSX.out _ HZ.out
        | with_reducible exact HSX.out _ HZD.out
        | with_reducible exact HSX.out _ HB3.out
        | with_reducible exact HSX.out _ HB4.out
        | go_keep)
      (first
        | (go_at_call 73; with_reducible refine (HAL.out _ (HB2.out.trans (HZD.out.mono HB2.out.size))).mono ?_; rintro e' w3 ⟨⟨v3, rfl, hk3⟩, hb3⟩; have HB3 := Lib.hid (HZD.out.trans (hb3.mono HZD.out.size)); have HK3 := Lib.hid hk3; clear hk3 hb3)
        | (go_at_call 72; with_reducible refine (HSR.out _ _ HK3.out).mono ?_; rintro e' w4 ⟨⟨v4, rfl, hk4⟩, hb4⟩; have HB4 := Lib.hid (HB3.out.trans (hb4.mono HB3.out.size)); have HK4 := Lib.hid hk4; clear hk4 hb4))
    all_goals
      go_wp2
      go_ret
      exact ⟨⟨_, rfl, HK4.out⟩, HB2.out.trans (HB4.out.mono HB2.out.size)⟩
  · have HR := Lib.hid (Right_q (hT.below HB.out) (hQ.below HB.out) false ⟨fun h => (by cases h), fun h => absurd h hno⟩)
    clear hT hQ HD hno
    unfold qv at HR
    unfold qv
    go_enter Tryz.func25, Tryz.ntmps25
    go_upto_region 1 with fail
    generalize W.heap.size = p at HQ ⊢
    generalize W.alloc _ = w1 at HQ HB HR ⊢
    obtain ⟨h0, h1, h2, h3, h4, h5, h6⟩ := HQ.out.all
    go_wp2_with fail
    refine HR.out.mono ?_
    rintro e' w2 ⟨rfl, hb2⟩
    have HB2 := Lib.hid (HB.out.trans (hb2.mono HB.out.size))
    clear hb2 h0 h1 h2 h3 h4 h5 h6 HQ HB HR
    go_wp2
    go_ret
    exact ⟨⟨.slice none 0 0, rfl, nil_keys _⟩, HB2.out⟩
end Go.Proofs.YtpmknpdnhfnfcaaGreatDoor
