/-
  TreeNew returns true at every input, and turns nothing that was there: so many empty nodes are what the document says.
-/
import Derived.Test.YtgjacmkedgbneaaTwR
import Derived.Test.YtgjacmkedgbneaaTyA
import Derived.Test.YtgjacmkedgbneaaPost
namespace Go.Proofs.Ytgjacmkedgbneaa.treeNew
open Go.ChangeShapes Go.WideShapes Go.ChangeAt Go.RowKit Go.Sort Wd Tn Ky Tr

set_option maxHeartbeats 1000000 in
set_option maxRecDepth 100000 in
theorem walk (n : Int) (_hn : (Lit.int .i64 n).wf = true) (W : World) :
    Calls Try.prog 4 #[.int .i64 n] W fun e w' => e = .returned (.bool true) ∧ Below W.heap.size W w' := by
  have HA := Lib.hid (New_s n W)
  generalize hT : newT n = t at HA
  generalize hE : newE n = er at HA
  have HTE := Lib.hid (And.intro hT hE)
  clear hT hE
  go_enter Try.func4, Try.ntmps4
  go_wp2_with fail
  refine HA.out.mono ?_
  rintro e' w1 ⟨a1, c1, rfl, hn1, hb1⟩
  have HX1 := Lib.hid ((Below.refl w1.heap.size w1).alloc (Nat.le_refl _) (.cells #[.int .i64 t.root, .slice a1 t.ns.length c1] 24))
  have HB1 := Lib.hid (bOnA hb1 HX1.out (Nat.le_refl _))
  have HN1 := Lib.hid (hn1.below HX1.out)
  have HT1 := Lib.hid (Tb.new w1 t.root (.slice a1 t.ns.length c1) 24)
  clear HA hn1 hb1 HX1
  go_upto_region 2 with fail
  generalize hq1 : w1.heap.size = q1 at HT1 ⊢
  clear hq1
  generalize w1.alloc (.cells #[.int .i64 t.root, .slice a1 t.ns.length c1] 24) = w2 at HB1 HN1 HT1 ⊢
  have HR := Lib.hid (rNew_at n w2)
  rw [HTE.out.1, HTE.out.2] at HR
  go_wp2_with fail
  refine HR.out.mono ?_
  rintro e' w3 ⟨a3, c3, rfl, hn3, hb3⟩
  have HX3 := Lib.hid (hb3.alloc hb3.size (.cells #[.int .i64 t.root, .slice a3 t.ns.length c3] 24))
  have HA3 := Lib.hid ((Below.refl w3.heap.size w3).alloc (Nat.le_refl _) (.cells #[.int .i64 t.root, .slice a3 t.ns.length c3] 24))
  have HB3 := Lib.hid (bOnA HB1.out HX3.out (Nat.le_refl _))
  have HN3 := Lib.hid (hn3.below HA3.out)
  have HT3 := Lib.hid (Tb.new w3 t.root (.slice a3 t.ns.length c3) 24)
  have HT1' := Lib.hid (HT1.out.below HX3.out HT1.out.lt)
  have HN1' := Lib.hid (HN1.out.below HX3.out)
  clear HR hn3 hb3 HX3 HB1 HN1 HT1 HA3
  go_upto_region 3 with fail
  generalize hq3 : w3.heap.size = q3 at HT3 ⊢
  clear hq3
  generalize w3.alloc (.cells #[.int .i64 t.root, .slice a3 t.ns.length c3] 24) = w4 at HB3 HN3 HT3 HT1' HN1' ⊢
  have HAW := Lib.hid (awake_at w4)
  go_wp2_with fail
  refine HAW.out.mono ?_
  rintro e' w5 ⟨rfl, hb5⟩
  have HB5 := Lib.hid (bOnA HB3.out hb5 (Nat.le_refl _))
  have HS := Lib.hid (rSame_eq (HN1'.out.below hb5) (HN3.out.below hb5))
  obtain ⟨x0, x1, -, -⟩ := (HT1'.out.below hb5 HT1'.out.lt).all
  obtain ⟨y0, y1, -, -⟩ := (HT3.out.below hb5 HT3.out.lt).all
  clear HAW hb5 HB3 HN3 HT3 HT1' HN1'
  have hee : (er == er) = true := by simp
  go_wp2_with fail
  refine HS.out.mono ?_
  rintro e' w6 ⟨rfl, hb6⟩
  have HF := Lib.hid (bOnA HB5.out hb6 (Nat.le_refl _))
  clear HS hb6 x0 x1 y0 y1
  go_wp2
  go_ret
  exact ⟨rfl, HF.out⟩

set_option maxRecDepth 100000 in
theorem lifted (os : Os) (started : os.Started) (H : Type) (enc : TypeId × Value → H) :
    ReturnsInHanded {} Try.checked os 4 .any (Rows.treeNewSpec.pre6 enc Try.prog Try.f4 Rows.treeNewRow.domain false) (Rows.treeNewSpec.post enc Try.prog Try.f4 false true false false) := by
  refine returnsInHanded_of_change (C := Try.checked) own started (by kernel_rfl) Try.func4
    (ChangeSpec.witness6 (enc := enc) (C := Try.checked) false ⟨#[], #[.int .i64 0], []⟩ 8 (by kernel_rfl) (by kernel_rfl) (by kernel_rfl) (by kernel_rfl)) ?_
  intro W base args ds gs before hval0 hW _ _
  have hval : ∀ (j : Nat) t v, Try.f4.params[j]? = some t → args[j]? = some v → Value.okWide Try.prog W .any base t v := hval0
  have hW' := hW
  obtain ⟨p, q, hA0, hV, rfl, -, -⟩ := hW
  have hA : DataW.TrodAll enc Try.prog W 0 (fun _ => true) true Try.f4.params.toList args.toList ds p := hA0
  rw [Try.params4] at hA hval
  obtain ⟨v0, vs0, d0, ds0, p0, q0, hargs, rfl, rfl, h0, r0⟩ := trodAll_cons hA
  obtain ⟨rfl, rfl, rfl⟩ := trodAll_nil r0
  obtain rfl : args = #[v0] := by cases args; simp_all
  obtain ⟨rfl, rfl⟩ := trodVars_none hV
  obtain ⟨a0, rfl, rfl, rfl, w0⟩ := open_int Try.underlying3 (hval 0 3 v0 rfl rfl) h0
  clear hA0 hval0
  refine (walk a0 w0 W).mono fun e W' ⟨he, hb⟩ => ?_
  subst he
  exact ⟨_, rfl, post_law laidOut (by kernel_rfl) rfl (by kernel_rfl) Try.underlying4 hW' rfl hb⟩

/-- **TreeNew**: the given statement. -/
theorem proved : Rows.TreeNewSaid :=
  OpenClaim.holds_of_wide 4 Try.f4 rfl rfl rfl rfl rfl rfl rfl ⟨rfl, rfl, rfl, rfl, rfl⟩ rfl rfl rfl rfl rfl (by kernel_rfl) Try.func4 (by kernel_rfl)
    (of_decide_eq_true (by kernel_rfl)) (by unfold Func.isWrapper; first | (rw [if_pos (by decide +kernel)]; kernel_rfl) | (rw [if_neg (by decide +kernel)]; exact ⟨rfl, rfl⟩))
    (fun os started H enc _ => lifted os started H enc)
end Go.Proofs.Ytgjacmkedgbneaa.treeNew
