/-
  KeyOrder returns true at every input, and turns nothing that was there: of two keys one is less, unless they stand alike; what is less than what is less is less. No condition.
-/
import Derived.Test.YtdmkaclihopmkaaKyW
import Derived.Test.YtdmkaclihopmkaaArr
import Derived.Test.YtdmkaclihopmkaaPost
import Derived.Deep.RegionHeld3
import Derived.Deep.DeepCutAuto
namespace Go.Proofs.Ytdmkaclihopmkaa.keyOrder
open Go.ChangeShapes Go.WideShapes Go.ChangeAt Go.RowKit Go.Sort Wd Tn Ky

/-- Three keys, just laid. -/
theorem three (w : World) (u v t : K) (X : World) (hX : X = (((w.alloc (.cells #[.int .u64 u.1, .int .i64 u.2] 26)).alloc (.cells #[.int .u64 v.1, .int .i64 v.2] 26)).alloc (.cells #[.int .u64 t.1, .int .i64 t.2] 26)).drew) :
    Kb X w.heap.size u ∧ Kb X (w.heap.size + 1) v ∧ Kb X (w.heap.size + 1 + 1) t ∧ Below w.heap.size w X := by
  subst hX
  have h2 := Kb.new (w.alloc (.cells #[.int .u64 u.1, .int .i64 u.2] 26)) v
  have h3 := Kb.new ((w.alloc (.cells #[.int .u64 u.1, .int .i64 u.2] 26)).alloc (.cells #[.int .u64 v.1, .int .i64 v.2] 26)) t
  rw [show (w.alloc (.cells #[.int .u64 u.1, .int .i64 u.2] 26)).heap.size = w.heap.size + 1 by simp] at h2
  rw [show ((w.alloc (.cells #[.int .u64 u.1, .int .i64 u.2] 26)).alloc (.cells #[.int .u64 v.1, .int .i64 v.2] 26)).heap.size = w.heap.size + 1 + 1 by simp] at h3
  have h1 := ((Kb.new w u).gr (Gr.alloc _ (.cells #[.int .u64 v.1, .int .i64 v.2] 26))).gr (Gr.alloc _ (.cells #[.int .u64 t.1, .int .i64 t.2] 26))
  have h4 := h2.gr (Gr.alloc _ (.cells #[.int .u64 t.1, .int .i64 t.2] 26))
  exact ⟨h1, h4, h3, (((Gr.alloc _ _).trans (Gr.alloc _ _)).trans (Gr.alloc _ _)).below.drew⟩

set_option maxRecDepth 100000 in
set_option maxHeartbeats 4000000 in
theorem walk (m a0 a1 a2 b0 b1 b2 : Int) (_hm : (Lit.int .u64 m).wf = true) (h0 : (Lit.int .u64 a0).wf = true) (h1 : (Lit.int .u64 a1).wf = true) (_h2 : (Lit.int .u64 a2).wf = true) (i0 : (Lit.int .u8 b0).wf = true) (i1 : (Lit.int .u8 b1).wf = true) (i2 : (Lit.int .u8 b2).wf = true) (W : World) :
    Calls Try.prog 5 #[.int .u64 m, .agg #[.int .u64 a0, .int .u64 a1, .int .u64 a2], .agg #[.int .u8 b0, .int .u8 b1, .int .u8 b2]] W fun e w' => e = .returned (.bool true) ∧ Below W.heap.size W w' := by
  have mixed : Try.prog.follows .mixedOrders = true := by kernel_rfl
  have j0 := bounds_u8 i0
  have j1 := bounds_u8 i1
  have j2 := bounds_u8 i2
  obtain ⟨w0, hw0⟩ : ∃ w0, w0 = (W.alloc (.cells #[.int .u64 a0, .int .u64 a1, .int .u64 a2] 38)).alloc (.cells #[.int .u8 b0, .int .u8 b1, .int .u8 b2] 39) := ⟨_, rfl⟩
  have HB0 : Hid (Below W.heap.size W w0) := Lib.hid (hw0 ▸ ((Gr.alloc _ _).trans (Gr.alloc _ _)).below)
  have HC : Hid ((w0.cell? ⟨W.heap.size, 0, none⟩ = some (.int .u64 a0) ∧ w0.cell? ⟨W.heap.size, 1, none⟩ = some (.int .u64 a1) ∧ w0.cell? ⟨W.heap.size, 2, none⟩ = some (.int .u64 a2)) ∧ w0.cell? ⟨W.heap.size + 1, 0, none⟩ = some (.int .u8 b0) ∧ w0.cell? ⟨W.heap.size + 1, 1, none⟩ = some (.int .u8 b1) ∧ w0.cell? ⟨W.heap.size + 1, 2, none⟩ = some (.int .u8 b2)) := by
    rw [hw0]
    refine Lib.hid ⟨⟨(Gr.alloc _ _).cell ?_, (Gr.alloc _ _).cell ?_, (Gr.alloc _ _).cell ?_⟩, ?_, ?_, ?_⟩
    · rw [World.cell?_alloc_at _ _ _ _ rfl]; rfl
    · rw [World.cell?_alloc_at _ _ _ _ rfl]; rfl
    · rw [World.cell?_alloc_at _ _ _ _ rfl]; rfl
    · rw [World.cell?_alloc_at _ _ _ _ (by simp)]; rfl
    · rw [World.cell?_alloc_at _ _ _ _ (by simp)]; rfl
    · rw [World.cell?_alloc_at _ _ _ _ (by simp)]; rfl
  have HW0 := Lib.hid hw0
  clear hw0
  go_enter Try.func5, Try.ntmps5
  go_wp2_with fail
  rw [← HW0.out]
  go_wp2_with fail
  refine (awake_any _).mono ?_
  rintro e' w_h3 ⟨rfl, h3⟩
  have HC3 := Lib.hid (fun p v (hp : w0.cell? p = some v) => (h3.cell (World.block_lt_of_cell? w0 p hp)).trans hp)
  have HB3 := Lib.hid (bOn HB0.out h3)
  have c0 := HC3.out _ _ HC.out.1.1
  have c1 := HC3.out _ _ HC.out.1.2.1
  have c2 := HC3.out _ _ HC.out.1.2.2
  have d0 := HC3.out _ _ HC.out.2.1
  have d1 := HC3.out _ _ HC.out.2.2.1
  have d2 := HC3.out _ _ HC.out.2.2.2
  clear h3
  generalize w_h3 = w1 at *
  have hlt : W.heap.size + 1 < w1.heap.size := World.block_lt_of_cell? w1 _ d0
  have HSX : Hid (∀ X, Below w1.heap.size w1 X → (X.cell? ⟨W.heap.size, 0, none⟩ = some (.int .u64 a0) ∧ X.cell? ⟨W.heap.size, 1, none⟩ = some (.int .u64 a1) ∧ X.cell? ⟨W.heap.size, 2, none⟩ = some (.int .u64 a2) ∧ X.cell? ⟨W.heap.size + 1, 0, none⟩ = some (.int .u8 b0) ∧ X.cell? ⟨W.heap.size + 1, 1, none⟩ = some (.int .u8 b1) ∧ X.cell? ⟨W.heap.size + 1, 2, none⟩ = some (.int .u8 b2))) := Lib.hid (fun X hX =>
    ⟨(hX.cell (World.block_lt_of_cell? w1 _ c0)).trans c0, (hX.cell (World.block_lt_of_cell? w1 _ c1)).trans c1, (hX.cell (World.block_lt_of_cell? w1 _ c2)).trans c2, (hX.cell (World.block_lt_of_cell? w1 _ d0)).trans d0, (hX.cell (World.block_lt_of_cell? w1 _ d1)).trans d1, (hX.cell (World.block_lt_of_cell? w1 _ d2)).trans d2⟩)
  go_upto_region 4 with fail
  go_cut [8, 9, 10] (fun s8 s9 s10 wx => ∃ p q r : Nat, s8 = .pointer (some ⟨p, 0, none⟩) ∧ s9 = .pointer (some ⟨q, 0, none⟩) ∧ s10 = .pointer (some ⟨r, 0, none⟩) ∧ Hid (Kb wx p (a0, IntKind.i64.wrap b0) ∧ Kb wx q (a1, IntKind.i64.wrap b1) ∧ Kb wx r (a2, IntKind.i64.wrap b2) ∧ Below w1.heap.size w1 wx))
  case first =>
    go_region_held3 (fun X => X.cell? ⟨W.heap.size, 0, none⟩ = some (.int .u64 a0) ∧ X.cell? ⟨W.heap.size, 1, none⟩ = some (.int .u64 a1) ∧ X.cell? ⟨W.heap.size, 2, none⟩ = some (.int .u64 a2) ∧ X.cell? ⟨W.heap.size + 1, 0, none⟩ = some (.int .u8 b0) ∧ X.cell? ⟨W.heap.size + 1, 1, none⟩ = some (.int .u8 b1) ∧ X.cell? ⟨W.heap.size + 1, 2, none⟩ = some (.int .u8 b2))
      (first
        | exact HSX.out _ (by repeat' (first | exact Below.refl _ _ | refine Below.drew ?_ | refine Below.alloc ?_ ?_ _ | refine Below.setCell ?_ ?_ _ | (simp; done) | (simp; omega))))
      (first | fail)
    all_goals
      go_wp2_with fail
      go_meet
      first
        | exact ⟨_, _, _, rfl, rfl, rfl, Lib.hid ⟨(three w1 (a0, IntKind.i64.wrap b0) (a1, IntKind.i64.wrap b1) (a2, IntKind.i64.wrap b2) _ rfl).1, (three w1 (a0, IntKind.i64.wrap b0) (a1, IntKind.i64.wrap b1) (a2, IntKind.i64.wrap b2) _ rfl).2.1, (three w1 (a0, IntKind.i64.wrap b0) (a1, IntKind.i64.wrap b1) (a2, IntKind.i64.wrap b2) _ rfl).2.2.1, (three w1 (a0, IntKind.i64.wrap b0) (a1, IntKind.i64.wrap b1) (a2, IntKind.i64.wrap b2) _ rfl).2.2.2⟩⟩
        | exact ⟨_, _, _, rfl, rfl, rfl, Lib.hid ⟨(three w1 (a0, IntKind.i64.wrap b0) (a2, IntKind.i64.wrap b2) (a1, IntKind.i64.wrap b1) _ rfl).1, (three w1 (a0, IntKind.i64.wrap b0) (a2, IntKind.i64.wrap b2) (a1, IntKind.i64.wrap b1) _ rfl).2.2.1, (three w1 (a0, IntKind.i64.wrap b0) (a2, IntKind.i64.wrap b2) (a1, IntKind.i64.wrap b1) _ rfl).2.1, (three w1 (a0, IntKind.i64.wrap b0) (a2, IntKind.i64.wrap b2) (a1, IntKind.i64.wrap b1) _ rfl).2.2.2⟩⟩
        | exact ⟨_, _, _, rfl, rfl, rfl, Lib.hid ⟨(three w1 (a1, IntKind.i64.wrap b1) (a0, IntKind.i64.wrap b0) (a2, IntKind.i64.wrap b2) _ rfl).2.1, (three w1 (a1, IntKind.i64.wrap b1) (a0, IntKind.i64.wrap b0) (a2, IntKind.i64.wrap b2) _ rfl).1, (three w1 (a1, IntKind.i64.wrap b1) (a0, IntKind.i64.wrap b0) (a2, IntKind.i64.wrap b2) _ rfl).2.2.1, (three w1 (a1, IntKind.i64.wrap b1) (a0, IntKind.i64.wrap b0) (a2, IntKind.i64.wrap b2) _ rfl).2.2.2⟩⟩
        | exact ⟨_, _, _, rfl, rfl, rfl, Lib.hid ⟨(three w1 (a1, IntKind.i64.wrap b1) (a2, IntKind.i64.wrap b2) (a0, IntKind.i64.wrap b0) _ rfl).2.2.1, (three w1 (a1, IntKind.i64.wrap b1) (a2, IntKind.i64.wrap b2) (a0, IntKind.i64.wrap b0) _ rfl).1, (three w1 (a1, IntKind.i64.wrap b1) (a2, IntKind.i64.wrap b2) (a0, IntKind.i64.wrap b0) _ rfl).2.1, (three w1 (a1, IntKind.i64.wrap b1) (a2, IntKind.i64.wrap b2) (a0, IntKind.i64.wrap b0) _ rfl).2.2.2⟩⟩
        | exact ⟨_, _, _, rfl, rfl, rfl, Lib.hid ⟨(three w1 (a2, IntKind.i64.wrap b2) (a0, IntKind.i64.wrap b0) (a1, IntKind.i64.wrap b1) _ rfl).2.1, (three w1 (a2, IntKind.i64.wrap b2) (a0, IntKind.i64.wrap b0) (a1, IntKind.i64.wrap b1) _ rfl).2.2.1, (three w1 (a2, IntKind.i64.wrap b2) (a0, IntKind.i64.wrap b0) (a1, IntKind.i64.wrap b1) _ rfl).1, (three w1 (a2, IntKind.i64.wrap b2) (a0, IntKind.i64.wrap b0) (a1, IntKind.i64.wrap b1) _ rfl).2.2.2⟩⟩
        | exact ⟨_, _, _, rfl, rfl, rfl, Lib.hid ⟨(three w1 (a2, IntKind.i64.wrap b2) (a1, IntKind.i64.wrap b1) (a0, IntKind.i64.wrap b0) _ rfl).2.2.1, (three w1 (a2, IntKind.i64.wrap b2) (a1, IntKind.i64.wrap b1) (a0, IntKind.i64.wrap b0) _ rfl).2.1, (three w1 (a2, IntKind.i64.wrap b2) (a1, IntKind.i64.wrap b1) (a0, IntKind.i64.wrap b0) _ rfl).1, (three w1 (a2, IntKind.i64.wrap b2) (a1, IntKind.i64.wrap b1) (a0, IntKind.i64.wrap b0) _ rfl).2.2.2⟩⟩
  case rest =>
    obtain ⟨p, q, r, rfl, rfl, rfl, HK⟩ := hcut
    have hx : Kin (a0, IntKind.i64.wrap b0) := ⟨by have := bounds_u64 h0; unfold U M; omega, I_wrap _⟩
    have hy : Kin (a1, IntKind.i64.wrap b1) := ⟨by have := bounds_u64 h1; unfold U M; omega, I_wrap _⟩
    have HKX := Lib.hid hx
    have HKY := Lib.hid hy
    generalize ((a0, IntKind.i64.wrap b0) : K) = x at HK HKX
    generalize ((a1, IntKind.i64.wrap b1) : K) = y at HK HKY
    generalize ((a2, IntKind.i64.wrap b2) : K) = z at HK
    have hr := HK.out
    have HB := Lib.hid (bOn HB3.out hr.2.2.2)
    have f0 : ∀ n os, (grow (wc.drewN n) os).cell? ⟨p, 0, none⟩ = some (.int .u64 x.1) := fun n os => Gr.cell ⟨n, os, rfl⟩ hr.1.all.1
    have f1 : ∀ n os, (grow (wc.drewN n) os).cell? ⟨p, 1, none⟩ = some (.int .i64 x.2) := fun n os => Gr.cell ⟨n, os, rfl⟩ hr.1.all.2.1
    have f2 : ∀ n os, (grow (wc.drewN n) os).cell? ⟨q, 0, none⟩ = some (.int .u64 y.1) := fun n os => Gr.cell ⟨n, os, rfl⟩ hr.2.1.all.1
    have f3 : ∀ n os, (grow (wc.drewN n) os).cell? ⟨q, 1, none⟩ = some (.int .i64 y.2) := fun n os => Gr.cell ⟨n, os, rfl⟩ hr.2.1.all.2.1
    obtain ⟨l1, hl1⟩ : ∃ l1, ltK m x y = l1 := ⟨_, rfl⟩
    obtain ⟨l2, hl2⟩ : ∃ l2, ltK m y x = l2 := ⟨_, rfl⟩
    have hc1 : ∀ n os, Calls Try.prog 12 #[.int .u64 m, .agg #[.int .u64 x.1, .int .i64 x.2], .agg #[.int .u64 y.1, .int .i64 y.2]] (grow (wc.drewN n) os) fun e w' => e = .returned (.bool l1) ∧ ∃ q' os', w' = grow ((grow (wc.drewN n) os).drewN q') os' := fun n os => by
      rw [← hl1]; exact less_gr m x y _
    have hc2 : ∀ n os, Calls Try.prog 12 #[.int .u64 m, .agg #[.int .u64 y.1, .int .i64 y.2], .agg #[.int .u64 x.1, .int .i64 x.2]] (grow (wc.drewN n) os) fun e w' => e = .returned (.bool l2) ∧ ∃ q' os', w' = grow ((grow (wc.drewN n) os).drewN q') os' := fun n os => by
      rw [← hl2]; exact less_gr m y x _
    have HL1 := Lib.hid hl1
    have HL2 := Lib.hid hl2
    have HG : Hid (∀ w', Gr wc w' → Kb w' p x ∧ Kb w' q y ∧ Kb w' r z ∧ Below W.heap.size W w') := Lib.hid (fun w' hg => ⟨hr.1.gr hg, hr.2.1.gr hg, hr.2.2.1.gr hg, bOn HB.out hg.below⟩)
    clear hr hl1 hl2 hx hy HSX c0 c1 c2 d0 d1 d2 HC HC3 HW0
    go_wp2_with fail
    go_quiet_grown (first | (go_at_call 12; first | with_reducible exact Calls.grown_of (hc1 _ _) | with_reducible exact Calls.grown_of (hc2 _ _)))
    have HK2 := Lib.hid (HG.out (grow (wc.drewN nq) osq) ⟨nq, osq, rfl⟩)
    clear f0 f1 f2 f3 hc1 hc2 HG
    generalize grow (wc.drewN nq) osq = w2 at HK2 ⊢
    obtain ⟨e0, e1, -, -, -⟩ := HK2.out.1.all
    obtain ⟨e2, e3, -, -, -⟩ := HK2.out.2.1.all
    obtain ⟨e4, e5, -, -, -⟩ := HK2.out.2.2.1.all
    cases l1 with
    | true =>
      obtain rfl : l2 = false := by rw [← HL2.out]; exact lt_asymm HL1.out
      go_wp2_with fail
      refine (less_gr m x x _).mono ?_
      rintro e' w3 ⟨rfl, hg3⟩
      rw [lt_irrefl]
      obtain ⟨e0, e1, -, -, -⟩ := (HK2.out.1.gr hg3).all
      obtain ⟨e2, e3, -, -, -⟩ := (HK2.out.2.1.gr hg3).all
      obtain ⟨e4, e5, -, -, -⟩ := (HK2.out.2.2.1.gr hg3).all
      have HK3 := Lib.hid (⟨HK2.out.1.gr hg3, HK2.out.2.1.gr hg3, HK2.out.2.2.1.gr hg3, bOn HK2.out.2.2.2 hg3.below⟩ : Kb w3 p x ∧ Kb w3 q y ∧ Kb w3 r z ∧ Below W.heap.size W w3)
      clear hg3
      go_wp2_with fail
      refine (less_gr m y z _).mono ?_
      rintro e' w4 ⟨rfl, hg4⟩
      cases hyz : ltK m y z with
      | true =>
        have HXZ := Lib.hid (lt_trans HL1.out hyz)
        obtain ⟨e0, e1, -, -, -⟩ := (HK3.out.1.gr hg4).all
        obtain ⟨e4, e5, -, -, -⟩ := (HK3.out.2.2.1.gr hg4).all
        have HB4 := Lib.hid (bOn HK3.out.2.2.2 hg4.below)
        clear hg4 hyz
        go_wp2_with fail
        refine (less_gr m x z _).mono ?_
        rintro e' w5 ⟨rfl, hg5⟩
        rw [HXZ.out]
        have HB5 := Lib.hid (bOn HB4.out hg5.below)
        clear hg5
        go_wp2
        go_ret
        exact ⟨rfl, HB5.out⟩
      | false =>
        have HB4 := Lib.hid (bOn HK3.out.2.2.2 hg4.below)
        clear hg4 hyz
        go_wp2
        go_ret
        exact ⟨rfl, HB4.out⟩
    | false =>
      cases l2 with
      | true =>
        go_wp2_with fail
        refine (less_gr m x x _).mono ?_
        rintro e' w3 ⟨rfl, hg3⟩
        rw [lt_irrefl]
        have HB4 := Lib.hid (bOn HK2.out.2.2.2 hg3.below)
        clear hg3
        go_wp2
        go_ret
        exact ⟨rfl, HB4.out⟩
      | false =>
        obtain rfl : x = y := lt_same HKX.out HKY.out HL1.out HL2.out
        have q0 : (x.1 == x.1) = true := by simp
        have q1 : (x.2 == x.2) = true := by simp
        go_wp2_with fail
        refine (less_gr m x x _).mono ?_
        rintro e' w3 ⟨rfl, hg3⟩
        rw [lt_irrefl]
        have HB4 := Lib.hid (bOn HK2.out.2.2.2 hg3.below)
        clear hg3
        go_wp2
        go_ret
        exact ⟨rfl, HB4.out⟩

set_option maxRecDepth 100000 in
theorem lifted (os : Os) (started : os.Started) (H : Type) (enc : TypeId × Value → H) :
    ReturnsInHanded {} Try.checked os 5 .any (Rows.keyOrderSpec.pre6 enc Try.prog Try.f5 Rows.keyOrderRow.domain false) (Rows.keyOrderSpec.post enc Try.prog Try.f5 false true false false) := by
  refine returnsInHanded_of_change (C := Try.checked) own started (by kernel_rfl) Try.func5
    (ChangeSpec.witness6 (enc := enc) (C := Try.checked) false ⟨#[], #[.int .u64 0, .agg #[Value.int .u64 0, Value.int .u64 0, Value.int .u64 0], .agg #[Value.int .u8 0, Value.int .u8 0, Value.int .u8 0]], []⟩ 8 (by kernel_rfl) (by kernel_rfl) (by kernel_rfl) (by kernel_rfl)) ?_
  intro W base args ds gs before hval0 hW _ _
  have hval : ∀ (j : Nat) t v, Try.f5.params[j]? = some t → args[j]? = some v → Value.okWide Try.prog W .any base t v := hval0
  have hW' := hW
  obtain ⟨p, q, hA0, hV, rfl, -, -⟩ := hW
  have hA : DataW.TrodAll enc Try.prog W 0 (fun _ => true) true Try.f5.params.toList args.toList ds p := hA0
  rw [Try.params5] at hA hval
  obtain ⟨v0, vs0, d0, ds0, p0, q0, hargs, rfl, rfl, h0, r0⟩ := trodAll_cons hA
  obtain ⟨v1, vs1, d1, ds1, p1, q1, rfl, rfl, rfl, h1, r1⟩ := trodAll_cons r0
  obtain ⟨v2, vs2, d2, ds2, p2, q2, rfl, rfl, rfl, h2, r2⟩ := trodAll_cons r1
  obtain ⟨rfl, rfl, rfl⟩ := trodAll_nil r2
  obtain rfl : args = #[v0, v1, v2] := by cases args; simp_all
  obtain ⟨rfl, rfl⟩ := trodVars_none hV
  obtain ⟨a0, rfl, rfl, rfl, w0⟩ := open_int Try.underlying22 (hval 0 22 v0 rfl rfl) h0
  obtain ⟨zs1, rfl, hl1, hf1⟩ := arr_arg Try.underlying38 Try.underlying22 (by kernel_rfl) (by kernel_rfl) (hval 1 38 v1 rfl rfl) h1
  obtain ⟨a1_0, a1_1, a1_2, rfl⟩ := ints3 hl1
  have w1_0 := hf1 a1_0 (by simp)
  have w1_1 := hf1 a1_1 (by simp)
  have w1_2 := hf1 a1_2 (by simp)
  clear hf1 hl1
  obtain ⟨zs2, rfl, hl2, hf2⟩ := arr_arg Try.underlying39 Try.underlying5 (by kernel_rfl) (by kernel_rfl) (hval 2 39 v2 rfl rfl) h2
  obtain ⟨a2_0, a2_1, a2_2, rfl⟩ := ints3 hl2
  have w2_0 := hf2 a2_0 (by simp)
  have w2_1 := hf2 a2_1 (by simp)
  have w2_2 := hf2 a2_2 (by simp)
  clear hf2 hl2
  clear hA0 hval0
  refine (walk a0 a1_0 a1_1 a1_2 a2_0 a2_1 a2_2 w0 w1_0 w1_1 w1_2 w2_0 w2_1 w2_2 W).mono fun e W' ⟨he, hb⟩ => ?_
  subst he
  exact ⟨_, rfl, post_law laidOut (by kernel_rfl) rfl (by kernel_rfl) Try.underlying4 hW' rfl hb⟩

/-- **KeyOrder**: the given statement. -/
theorem proved : Rows.KeyOrderSaid :=
  OpenClaim.holds_of_wide 5 Try.f5 rfl rfl rfl rfl rfl rfl rfl ⟨rfl, rfl, rfl, rfl, rfl⟩ rfl rfl rfl rfl rfl (by kernel_rfl) Try.func5 (by kernel_rfl)
    (of_decide_eq_true (by kernel_rfl)) (by unfold Func.isWrapper; first | (rw [if_pos (by decide +kernel)]; kernel_rfl) | (rw [if_neg (by decide +kernel)]; exact ⟨rfl, rfl⟩))
    (fun os started H enc _ => lifted os started H enc)
end Go.Proofs.Ytdmkaclihopmkaa.keyOrder
