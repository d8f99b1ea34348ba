/-
  PackedApart returns true at every input, and turns nothing that was there: unlike states have unlike words; of the same slot the one that was taken later has the greater word. The table of places is tied to the program's text.
-/
import Derived.Test.YthkgfnkkmbhnjaaDoorPkD
import Derived.Test.YthkgfnkkmbhnjaaDoorPkN
import Derived.Test.YthkgfnkkmbhnjaaDoorPkS
import Derived.Test.YthkgfnkkmbhnjaaDoorPkL
import Derived.Test.YthkgfnkkmbhnjaaDoorAgg
import Derived.Test.YthkgfnkkmbhnjaaDoorPost
namespace Go.Proofs.YthkgfnkkmbhnjaaDoor.packedApart
open Go.ChangeShapes Go.WideShapes Go.ChangeAt Go.RowKit Pk

theorem fin1 {v u gn gm : Int} (h1 : ¬ v = u) (h2 : gn < gm → v < u) : ((!(v == u)) && (decide (gm ≤ gn) || decide (v < u))) = true := by
  have e : (v == u) = false := by simpa using h1
  rw [e]
  by_cases h : gm ≤ gn
  · simp [h]
  · have := h2 (by omega)
    simp [this]
theorem fin2 {v u : Int} (h1 : ¬ v = u) : (!(v == u)) = true := by simpa using h1

set_option maxRecDepth 100000 in
set_option maxHeartbeats 4000000 in
theorem walk (n m q : Int) (hn : (Lit.int .u64 n).wf = true) (hm : (Lit.int .u64 m).wf = true) (hq : (Lit.int .u8 q).wf = true) (W : World) (hT : Tab W) :
    Calls Tryd.prog 8 #[.int .u64 n, .int .u64 m, .int .u8 q] W fun e w' => e = .returned (.bool true) ∧ Below W.heap.size W w' := by
  have HT := Lib.hid hT
  have HN := Lib.hid (pkU_of_wf hn)
  have HM := Lib.hid (pkU_of_wf hm)
  obtain ⟨q0, q1⟩ := bounds_u8 hq
  clear hT hn hm hq
  have hb1 : ∃ b1, (q % 2 == 1) = b1 := ⟨_, rfl⟩
  have hb2 : ∃ b2, (q / 2 % 2 == 1) = b2 := ⟨_, rfl⟩
  obtain ⟨b1, e1⟩ := hb1
  obtain ⟨b2, e2⟩ := hb2
  have HX := Lib.hid (state_may n b1)
  have HY := Lib.hid (state_may m b2)
  go_enter Tryd.func8, Tryd.ntmps8
  go_wp2_with fail
  refine (awake_any _ HT.out).mono ?_
  rintro e' w_h1 ⟨rfl, h1⟩
  have H1 := Lib.hid h1
  clear h1
  go_wp2_with fail
  refine (state_any n HN.out b1 _).mono ?_
  rintro e' w_h2 ⟨rfl, h2⟩
  have H2 := Lib.hid (bOn H1.out h2)
  clear h2 H1
  go_wp2_with fail
  refine (state_any m HM.out b2 _).mono ?_
  rintro e' w_h3 ⟨rfl, h3⟩
  have H3 := Lib.hid (bOn H2.out h3)
  clear h3 H2
  clear q0 q1 e1 e2
  go_wp2_with fail
  refine (pack_any (K n) (C n) (sB n b1) (sS n) (sG n) _ (HT.out.below (bOn H3.out (by go_grown)))).mono ?_
  rintro e' w_h4 ⟨rfl, h4⟩
  rw [(pk_yes HX.out).1, (pk_yes HX.out).2]
  have H4 := Lib.hid (bOn H3.out (bOn (by go_grown) h4) : Below W.heap.size W w_h4)
  have HA4 := Lib.hid ((St.new w_h3 (K n) (C n) (sB n b1) (sS n) (sG n)).below (Below.alloc (Below.refl _ _) (Nat.le_refl _) (.cells #[.int .i64 (K m), .int .i64 (C m), .bool (sB m b2), .int .i64 (sS m), .int .i64 (sG m)] 23)) (by simp) |>.below h4 (by simp; omega))
  have HB4 : Hid (St w_h4 (w_h3.heap.size + 1) (K m) (C m) (sB m b2) (sS m) (sG m)) := Lib.hid (by
    have := (St.new (w_h3.alloc (.cells #[.int .i64 (K n), .int .i64 (C n), .bool (sB n b1), .int .i64 (sS n), .int .i64 (sG n)] 23)) (K m) (C m) (sB m b2) (sS m) (sG m)).below h4 (by simp)
    rwa [World.size_alloc] at this)
  clear h4 H3
  obtain ⟨⟨y0, y1, y2, y3, y4⟩, -, hy⟩ := HB4.out.all
  go_wp2_with fail
  refine (pack_any (K m) (C m) (sB m b2) (sS m) (sG m) _ (HT.out.below H4.out)).mono ?_
  rintro e' w_h5 ⟨rfl, h5⟩
  rw [(pk_yes HY.out).1, (pk_yes HY.out).2]
  have H5 := Lib.hid (bOn H4.out h5)
  have HA5 := Lib.hid (HA4.out.below h5 HA4.out.lt)
  have HB5 := Lib.hid (HB4.out.below h5 HB4.out.lt)
  clear h5 H4 HA4 HB4 y0 y1 y2 y3 y4 hy
  obtain ⟨⟨x0, x1, x2, x3, x4⟩, -, hx⟩ := HA5.out.all
  obtain ⟨⟨y0, y1, y2, y3, y4⟩, -, hy⟩ := HB5.out.all
  have HS := Lib.hid (word_same HX.out HY.out)
  have HG := Lib.hid (word_less HX.out HY.out)
  generalize word (K n) (C n) (sB n b1) (sS n) (sG n) = v at *
  generalize word (K m) (C m) (sB m b2) (sS m) (sG m) = u at *
  clear HX HY
  generalize K n = kn at *
  generalize C n = cn at *
  generalize sB n b1 = bn at *
  generalize sS n = sn at *
  generalize sG n = gn at *
  generalize K m = km at *
  generalize C m = cm at *
  generalize sB m b2 = bm at *
  generalize sS m = sm at *
  generalize sG m = gm at *
  go_wp2
  all_goals first
    | (go_ret; exact ⟨rfl, H5.out⟩)
    | exact absurd (HS.out.2 ⟨by assumption, by assumption, by assumption, by assumption, by assumption⟩) (by assumption)
    | exact absurd (HS.out.1 (by assumption)).1 (by assumption)
    | exact absurd (HS.out.1 (by assumption)).2.1 (by assumption)
    | exact absurd (HS.out.1 (by assumption)).2.2.1 (by assumption)
    | exact absurd (HS.out.1 (by assumption)).2.2.2.1 (by assumption)
    | exact absurd (HS.out.1 (by assumption)).2.2.2.2 (by assumption)
    | exact absurd (HG.out (by omega)) (by omega)
    | (go_ret; exact ⟨congrArg (fun b => Ending.returned (Value.bool b)) (fin1 (by assumption) HG.out), H5.out⟩)
    | (go_ret; exact ⟨congrArg (fun b => Ending.returned (Value.bool b)) (fin2 (by assumption)), H5.out⟩)
    | trace_state

theorem met (os : Os) : laidMet Tryd.prog Rows.packedApartRow.laid ((laidWorld os).forCall (fun _ _ => 0) ⟨#[], #[.int .u64 0, .int .u64 0, .int .u8 0], []⟩).memory := laidMet_of_run' 8 (by kernel_rfl) (by kernel_rfl)
theorem reads (os : Os) {H : Type} (enc : TypeId × Value → H) : ∃ ps, DataW.whole enc Tryd.prog ((laidWorld os).forCall (fun _ _ => 0) ⟨#[], #[.int .u64 0, .int .u64 0, .int .u8 0], []⟩).memory Tryd.f8.params.toList Rows.packedApartSpec.vars false #[Value.int .u64 0, Value.int .u64 0, Value.int .u8 0].toList 8 = some ([.lit (.int .u64 0), .lit (.int .u64 0), .lit (.int .u8 0)], [], ps) := ⟨[], by kernel_rfl⟩
set_option maxRecDepth 100000 in
theorem lifted (os : Os) (started : os.Started) (H : Type) (enc : TypeId × Value → H) (F : Stop.Interp) :
    ReturnsInHanded {} Tryd.checked os 8 .any ((OpenSpec.ofChange Rows.packedApartSpec).preRow enc Tryd.prog Tryd.f8 Rows.packedApartRow.domain false Rows.packedApartRow.laid) (((OpenSpec.ofChange Rows.packedApartSpec).at F).post enc Tryd.prog Tryd.f8 false true false false) := by
  obtain ⟨ps, hx⟩ := reads os enc
  refine returnsInHanded_of_row (C := Tryd.checked) (s := OpenSpec.ofChange Rows.packedApartSpec) own started (by kernel_rfl) Tryd.func8 (witness_row_at (enc := enc) (C := Tryd.checked) false (laidWorld os) #[.int .u64 0, .int .u64 0, .int .u8 0] rfl (by kernel_rfl) (by kernel_rfl) (by kernel_rfl) (OpenSpec.preRow_of_cond 8 hx (by kernel_rfl) (fun k hk => by cases hk) (by kernel_rfl) (met os))) ?_
  intro W base args ds gs before hval0 hW _ _ _ hL _ _
  have hval : ∀ (j : Nat) t v, Tryd.f8.params[j]? = some t → args[j]? = some v → Value.okWide Tryd.prog W .any base t v := hval0
  have hW' := hW
  obtain ⟨p, q, hA0, hV, rfl, -, -⟩ := hW
  have hA : DataW.TrodAll enc Tryd.prog W 0 (fun _ => true) true Tryd.f8.params.toList args.toList ds p := hA0
  rw [Tryd.params8] at hA hval
  obtain ⟨v0, vs0, d0, ds0, p0, q0, hargs, rfl, rfl, h0, r0⟩ := trodAll_cons hA
  obtain ⟨v1, vs1, d1, ds1, p1, q1, rfl, rfl, rfl, h1, r1⟩ := trodAll_cons r0
  obtain ⟨v2, vs2, d2, ds2, p2, q2, rfl, rfl, rfl, h2, r2⟩ := trodAll_cons r1
  obtain ⟨rfl, rfl, rfl⟩ := trodAll_nil r2
  obtain rfl : args = #[v0, v1, v2] := by cases args; simp_all
  obtain ⟨rfl, rfl⟩ := trodVars_none hV
  obtain ⟨a0, rfl, rfl, rfl, w0⟩ := open_int Tryd.underlying24 (hval 0 24 v0 rfl rfl) h0
  obtain ⟨a1, rfl, rfl, rfl, w1⟩ := open_int Tryd.underlying24 (hval 1 24 v1 rfl rfl) h1
  obtain ⟨a2, rfl, rfl, rfl, w2⟩ := open_int Tryd.underlying5 (hval 2 5 v2 rfl rfl) h2
  clear hA0 hval0
  refine (walk a0 a1 a2 w0 w1 w2 W (tab_laid hL)).mono fun e W' ⟨he, hb⟩ => ?_
  subst he
  exact ⟨_, rfl, post_law laidOut (by kernel_rfl) rfl (by kernel_rfl) Tryd.underlying4 hW' rfl hb⟩

theorem row : Rows.PackedApartSaid :=
  OpenClaim.holds_of_cond 8 Tryd.f8 rfl rfl rfl rfl rfl rfl rfl ⟨rfl, rfl, rfl, rfl, rfl⟩ rfl rfl rfl rfl rfl (by kernel_rfl) Tryd.func8 (by kernel_rfl)
    (of_decide_eq_true (by kernel_rfl)) (by unfold Func.isWrapper; first | (rw [if_pos (by decide +kernel)]; kernel_rfl) | (rw [if_neg (by decide +kernel)]; exact ⟨rfl, rfl⟩))
    (fun os started H enc _ F => by rw [OpenClaim.pre_eq_preRow]; exact lifted os started H enc F)
theorem simple (f : FuncId) (fn : Func) (hf : Tryd.pinned.checked.prog.funcNamed Rows.packedApartRow.func = some f) (hfn : Tryd.pinned.checked.prog.funcs[f]? = some fn) :
    false = Tryd.pinned.checked.prog.looks [] ∧ ∀ (j : Nat) t, fn.params[j]? = some t → Tryd.pinned.checked.prog.wantsStandIn t = false := by
  have e1 : Tryd.prog.funcNamed Rows.packedApartRow.func = some 8 := by kernel_rfl
  cases e1.symm.trans hf
  cases Tryd.func8.symm.trans hfn
  exact ⟨by kernel_rfl, no_stand (P := Tryd.prog) (by kernel_rfl)⟩
/-- **PackedApart**: the given statement, a tied card. -/
theorem proved : Rows.PackedApartCardSaid :=
  Claim7.holds_tied_plain_at .later [] _ _ _ _ row (fun _ h => by cases h) (by kernel_rfl) (fun _ h => by cases h) packedApart_row_tie rfl ⟨rfl, rfl⟩ (by kernel_rfl) rfl simple (by kernel_rfl)

end Go.Proofs.YthkgfnkkmbhnjaaDoor.packedApart
