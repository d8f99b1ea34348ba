/-
  KeyPuts returns true at every input, and turns nothing that was there: any keys with one more, and with one less, or why not, are what the document says (at most 60 keys).
-/
import Derived.Test.YtdmkaclihopmkaaKyW
import Derived.Test.YtdmkaclihopmkaaAgg
import Derived.Test.YtdmkaclihopmkaaPost
namespace Go.Proofs.Ytdmkaclihopmkaa.keyPuts
open Go.ChangeShapes Go.WideShapes Go.ChangeAt Go.RowKit Wd Tn Ky

set_option maxRecDepth 100000 in
set_option maxHeartbeats 800000 in
theorem walk (m : Int) (v : Value) (l : List K) (k1 k2 : Int) (W : World) (_hm : (Lit.int .u64 m).wf = true) (h : Keys W v l) (h1 : (Lit.int .u64 k1).wf = true) (h2 : (Lit.int .i64 k2).wf = true) :
    Calls Try.prog 4 #[.int .u64 m, v, .agg #[.int .u64 k1, .int .i64 k2]] W fun e w' => e = .returned (.bool true) ∧ Below W.heap.size W w' := by
  obtain ⟨k, hk⟩ : ∃ k : K, k = (k1, k2) := ⟨_, rfl⟩
  have hkin : Kin k := by
    rw [hk]
    exact ⟨by have := bounds_u64 h1; unfold U M; omega, by have := bounds_i64 h2; unfold I; omega⟩
  obtain rfl : k1 = k.1 := by rw [hk]
  obtain rfl : k2 = k.2 := by rw [hk]
  have HKIN := Lib.hid hkin
  obtain ⟨w0, hw0⟩ : ∃ w0, w0 = W.alloc (.cells #[.int .u64 k.1, .int .i64 k.2] 26) := ⟨_, rfl⟩
  have hb0 : Below W.heap.size W w0 := hw0 ▸ (Gr.alloc _ _).below
  have HB0 := Lib.hid hb0
  have HK0 := Lib.hid (h.below hb0)
  have HX0 : Hid (Kb w0 W.heap.size k) := Lib.hid (hw0 ▸ Kb.new W k)
  have HW0 := Lib.hid hw0
  have h0 := h
  obtain ⟨a, cap, rfl, -⟩ := h0
  obtain ⟨g0, g1, -, -, -⟩ := HX0.out.all
  rw [hw0] at g0 g1
  clear hk hkin hb0 hw0 h h1 h2
  by_cases hl : 60 < l.length
  · go_enter Try.func4, Try.ntmps4
    go_wp2_with fail
    rw [← HW0.out]
    go_wp2_with fail
    refine (awake_any _).mono ?_
    rintro e' w_h3 ⟨rfl, h3⟩
    have HF := Lib.hid (bOn HB0.out h3)
    clear h3
    go_wp2
    go_ret
    exact ⟨rfl, HF.out⟩
  · have hln : l.length ≤ 1000 := by omega
    go_enter Try.func4, Try.ntmps4
    go_wp2_with fail
    rw [← HW0.out]
    refine (put_any m k HKIN.out HK0.out hln).mono ?_
    rintro e' w1 ⟨⟨v1, rfl, hK1⟩, hb1⟩
    have HB1 := Lib.hid (bOn HB0.out hb1)
    have HK01 := Lib.hid (HK0.out.below hb1)
    have HX1 := Lib.hid (HX0.out.below hb1 HX0.out.lt)
    have HK1 := Lib.hid hK1
    clear hK1 hb1 g0 g1
    obtain ⟨g0, g1, -, -, -⟩ := HX1.out.all
    go_wp2_with fail
    refine (rputs_any m k HKIN.out HK01.out hln).mono ?_
    rintro e' w2 ⟨⟨v2, rfl, hK2⟩, hb2⟩
    have HB2 := Lib.hid (bOn HB1.out hb2)
    have HK02 := Lib.hid (HK01.out.below hb2)
    have HX2 := Lib.hid (HX1.out.below hb2 HX1.out.lt)
    have HK12 := Lib.hid (HK1.out.below hb2)
    have HK2 := Lib.hid hK2
    clear hK2 hb2 g0 g1
    obtain ⟨g0, g1, -, -, -⟩ := HX2.out.all
    go_wp2_with fail
    refine (drop_any m k.2 HKIN.out.2 HK02.out hln).mono ?_
    rintro e' w3 ⟨⟨v3, rfl, hK3⟩, hb3⟩
    have HB3 := Lib.hid (bOn HB2.out hb3)
    have HK03 := Lib.hid (HK02.out.below hb3)
    have HX3 := Lib.hid (HX2.out.below hb3 HX2.out.lt)
    have HK13 := Lib.hid (HK12.out.below hb3)
    have HK23 := Lib.hid (HK2.out.below hb3)
    have HK3 := Lib.hid hK3
    clear hK3 hb3 g0 g1
    obtain ⟨g0, g1, -, -, -⟩ := HX3.out.all
    go_wp2_with fail
    refine (rdrop_any m k.2 HK03.out hln).mono ?_
    rintro e' w4 ⟨⟨v4, rfl, hK4⟩, hb4⟩
    have HB4 := Lib.hid (bOn HB3.out hb4)
    have HK14 := Lib.hid (HK13.out.below hb4)
    have HK24 := Lib.hid (HK23.out.below hb4)
    have HK34 := Lib.hid (HK3.out.below hb4)
    have HK4 := Lib.hid hK4
    clear hK4 hb4 g0 g1
    generalize putE m l k = pe at *
    generalize dropE m l k.2 = de at *
    have e1 : (pe == pe) = true := by simp
    have e2 : (de == de) = true := by simp
    go_wp2_with fail
    refine (awake_any _).mono ?_
    rintro e' w_h5 ⟨rfl, h5⟩
    have HB5 := Lib.hid (bOn HB4.out h5)
    have HK15 := Lib.hid (HK14.out.below h5)
    have HK25 := Lib.hid (HK24.out.below h5)
    have HK35 := Lib.hid (HK34.out.below h5)
    have HK45 := Lib.hid (HK4.out.below h5)
    clear h5
    go_wp2_with fail
    refine (same_any HK15.out HK25.out).mono ?_
    rintro e' w6 ⟨rfl, hg6⟩
    rw [show decide (putL m l k = putL m l k) = true from decide_eq_true rfl]
    have HB6 := Lib.hid (bOn HB5.out hg6.below)
    have HK36 := Lib.hid (HK35.out.below hg6.below)
    have HK46 := Lib.hid (HK45.out.below hg6.below)
    clear hg6
    go_wp2_with fail
    refine (same_any HK36.out HK46.out).mono ?_
    rintro e' w7 ⟨rfl, hg7⟩
    rw [show decide (dropL m l k.2 = dropL m l k.2) = true from decide_eq_true rfl]
    have HB7 := Lib.hid (bOn HB6.out hg7.below)
    clear hg7
    go_wp2
    go_ret
    exact ⟨rfl, HB7.out⟩

set_option maxRecDepth 100000 in
theorem lifted (os : Os) (started : os.Started) (H : Type) (enc : TypeId × Value → H) :
    ReturnsInHanded {} Try.checked os 4 .any (Rows.keyPutsSpec.pre6 enc Try.prog Try.f4 Rows.keyPutsRow.domain false) (Rows.keyPutsSpec.post enc Try.prog Try.f4 false true false false) := by
  refine returnsInHanded_of_change (C := Try.checked) own started (by kernel_rfl) Try.func4
    (ChangeSpec.witness6 (enc := enc) (C := Try.checked) false ⟨#[], #[.int .u64 0, .slice none 0 0, .agg #[Value.int .u64 0, Value.int .i64 0]], []⟩ 8 (by kernel_rfl) (by kernel_rfl) (by kernel_rfl) (by kernel_rfl)) ?_
  intro W base args ds gs before hval0 hW _ _
  have hval : ∀ (j : Nat) t v, Try.f4.params[j]? = some t → args[j]? = some v → Value.okWide Try.prog W .any base t v := hval0
  have hW' := hW
  obtain ⟨p, q, hA0, hV, rfl, -, -⟩ := hW
  have hA : DataW.TrodAll enc Try.prog W 0 (fun _ => true) true Try.f4.params.toList args.toList ds p := hA0
  rw [Try.params4] at hA hval
  obtain ⟨v0, vs0, d0, ds0, p0, q0, hargs, rfl, rfl, h0, r0⟩ := trodAll_cons hA
  obtain ⟨v1, vs1, d1, ds1, p1, q1, rfl, rfl, rfl, h1, r1⟩ := trodAll_cons r0
  obtain ⟨v2, vs2, d2, ds2, p2, q2, rfl, rfl, rfl, h2, r2⟩ := trodAll_cons r1
  obtain ⟨rfl, rfl, rfl⟩ := trodAll_nil r2
  obtain rfl : args = #[v0, v1, v2] := by cases args; simp_all
  obtain ⟨rfl, rfl⟩ := trodVars_none hV
  obtain ⟨a0, rfl, rfl, rfl, w0⟩ := open_int Try.underlying22 (hval 0 22 v0 rfl rfl) h0
  obtain ⟨a1, w1⟩ := keys_arg Try.underlying23 Try.underlying26 (by kernel_rfl) rfl rfl (by kernel_rfl) (by kernel_rfl) Try.underlying22 Try.underlying3 (hval 1 23 v1 rfl rfl) h1
  obtain ⟨cs2, rfl, hl2, hf2⟩ := fields_arg Try.underlying26 (by kernel_rfl) (by kernel_rfl) (hval 2 26 v2 rfl rfl) h2
  obtain ⟨c2_0, c2_1, rfl⟩ := list2 hl2
  obtain ⟨_, _, t2_0⟩ := hf2 0 _ _ rfl rfl
  obtain ⟨a2_0, e2_0, -, w2_0⟩ := DataW.trod_int Try.underlying22 t2_0
  obtain rfl := (List.cons.inj e2_0).1
  obtain ⟨_, _, t2_1⟩ := hf2 1 _ _ rfl rfl
  obtain ⟨a2_1, e2_1, -, w2_1⟩ := DataW.trod_int Try.underlying3 t2_1
  obtain rfl := (List.cons.inj e2_1).1
  clear hf2 hl2
  clear hA0 hval0
  refine (walk a0 v1 a1 a2_0 a2_1 W w0 w1 w2_0 w2_1).mono fun e W' ⟨he, hb⟩ => ?_
  subst he
  exact ⟨_, rfl, post_law laidOut (by kernel_rfl) rfl (by kernel_rfl) Try.underlying4 hW' rfl hb⟩

/-- **KeyPuts**: the given statement. -/
theorem proved : Rows.KeyPutsSaid :=
  OpenClaim.holds_of_wide 4 Try.f4 rfl rfl rfl rfl rfl rfl rfl ⟨rfl, rfl, rfl, rfl, rfl⟩ rfl rfl rfl rfl rfl (by kernel_rfl) Try.func4 (by kernel_rfl)
    (of_decide_eq_true (by kernel_rfl)) (by unfold Func.isWrapper; first | (rw [if_pos (by decide +kernel)]; kernel_rfl) | (rw [if_neg (by decide +kernel)]; exact ⟨rfl, rfl⟩))
    (fun os started H enc _ => lifted os started H enc)
end Go.Proofs.Ytdmkaclihopmkaa.keyPuts
