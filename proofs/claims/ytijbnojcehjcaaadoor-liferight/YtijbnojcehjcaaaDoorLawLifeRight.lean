/-
  LifeRight returns true at every input, and turns nothing that was there: what comes of a word is a word; its Gen is one more behind EvCreate, and else the same; an event that has an error tells no word. The table of places is tied to the program's text.
-/
import Derived.Test.YtijbnojcehjcaaaDoorLfG
import Derived.Test.YtijbnojcehjcaaaDoorPkL
import Derived.Test.YtijbnojcehjcaaaDoorPost
namespace Go.Proofs.YtijbnojcehjcaaaDoor.lifeRight
open Go.ChangeShapes Go.WideShapes Go.ChangeAt Go.RowKit Pk Lf

set_option maxRecDepth 100000 in
set_option maxHeartbeats 4000000 in
theorem walk (w ev cpu : Int) (hw : (Lit.int .u64 w).wf = true) (he : (Lit.int .i64 ev).wf = true) (_hc : (Lit.int .i64 cpu).wf = true) (W : World) (hT : Tab W) :
    Calls Tryd.prog 5 #[.int .u64 w, .int .i64 ev, .int .i64 cpu] W fun e w' => e = .returned (.bool true) ∧ Below W.heap.size W w' := by
  have HT := Lib.hid hT
  have HU := Lib.hid (pkU_of_wf hw)
  have HE := Lib.hid he
  clear hT hw he
  by_cases hA : okA w ev cpu
  · cases ho : ofB ev.toNat (K w) (B w) with
    | false =>
      have HR := Lib.hid (nx_order hA ho)
      clear hA ho
      go_enter Tryd.func5, Tryd.ntmps5
      go_wp2_with fail
      refine (awake_any _ HT.out).mono ?_
      rintro e' w_h1 ⟨rfl, h1⟩
      have H1 := Lib.hid h1
      clear h1
      go_wp2_with fail
      refine (next_any w ev cpu HU.out HE.out _ (HT.out.below H1.out)).mono ?_
      rintro e' w_h2 ⟨rfl, h2⟩
      have H2 := Lib.hid (bOn H1.out h2)
      clear h2
      rw [HR.out.1, HR.out.2]
      go_wp2
      go_ret
      exact ⟨rfl, H2.out⟩
    | true =>
      by_cases hf : ev = 0 ∧ G w = 4294967295
      · have HR := Lib.hid (nx_full hA ho hf)
        obtain ⟨rfl, hg⟩ := hf
        clear hA ho hg
        go_enter Tryd.func5, Tryd.ntmps5
        go_wp2_with fail
        refine (awake_any _ HT.out).mono ?_
        rintro e' w_h1 ⟨rfl, h1⟩
        have H1 := Lib.hid h1
        clear h1
        go_wp2_with fail
        refine (next_any w 0 cpu HU.out HE.out _ (HT.out.below H1.out)).mono ?_
        rintro e' w_h2 ⟨rfl, h2⟩
        have H2 := Lib.hid (bOn H1.out h2)
        clear h2
        rw [HR.out.1, HR.out.2]
        go_wp2
        go_ret
        exact ⟨rfl, H2.out⟩
      · have hR := nx_yes hA ho hf
        have HR := Lib.hid hR.1
        have HV := Lib.hid (un_yes (nx_parts hR.1).1)
        have HG := Lib.hid (gen_more hR.1)
        have HB := Lib.hid (bit_more hR.1)
        have HN := Lib.hid (nx_U (w := w) (ev := ev) (cpu := cpu))
        have HW := Lib.hid (un_yes hA.1)
        have HP := Lib.hid (parts_may hA.1).2.2.2.1
        clear hA ho hf hR
        go_enter Tryd.func5, Tryd.ntmps5
        go_wp2_with fail
        refine (awake_any _ HT.out).mono ?_
        rintro e' w_h1 ⟨rfl, h1⟩
        have H1 := Lib.hid h1
        clear h1
        go_wp2_with fail
        refine (next_any w ev cpu HU.out HE.out _ (HT.out.below H1.out)).mono ?_
        rintro e' w_h2 ⟨rfl, h2⟩
        have H2 := Lib.hid (bOn H1.out h2)
        clear h2
        rw [HR.out]
        generalize nxW w ev cpu = v at *
        clear HR
        go_wp2_with fail
        refine (unpack_any w HU.out _ (HT.out.below H2.out)).mono ?_
        rintro e' w_h3 ⟨rfl, h3⟩
        rw [HW.out.1, HW.out.2.1, HW.out.2.2.1, HW.out.2.2.2.1, HW.out.2.2.2.2.1, HW.out.2.2.2.2.2]
        have H3 := Lib.hid (bOn H2.out h3)
        clear h3 HW
        go_wp2_with fail
        refine (unpack_any v HN.out _ (HT.out.below (bOn H3.out (by go_grown)))).mono ?_
        rintro e' w_h4 ⟨rfl, h4⟩
        rw [HV.out.1, HV.out.2.1, HV.out.2.2.1, HV.out.2.2.2.1, HV.out.2.2.2.2.1, HV.out.2.2.2.2.2]
        generalize K w = k at *
        generalize C w = c at *
        generalize B w = b at *
        generalize S w = s at *
        generalize G w = g at *
        have H4 : Hid (Below W.heap.size W w_h4) := Lib.hid (bOn H3.out (bOn (by go_grown) h4))
        have HX : Hid (St w_h4 w_h3.heap.size k c b s g) := Lib.hid ((St.new w_h3 k c b s g).below h4 (by simp))
        have hne : w_h3.heap.size ≠ w_h4.heap.size := by have := HX.out.lt; omega
        clear h4 HV
        rw [HB.out, HG.out]
        generalize K v = k'
        generalize C v = c'
        generalize S v = s'
        obtain ⟨⟨x0, x1, x2, x3, x4⟩, -, hx⟩ := HX.out.all
        have g0 : 0 ≤ g := HP.out.1
        have g1 : g ≤ 4294967295 := HP.out.2
        have hz := H4.out.size
        by_cases h0 : ev = 0
        · subst h0
          rw [if_pos rfl]
          have eg : (g + 1 == g + 1) = true := by simp
          go_wp2
          go_ret
          exact ⟨rfl, by have hB := H4.out; go_grown⟩
        · have e0 : (ev == 0) = false := by simpa using h0
          rw [if_neg h0]
          have eg : (g + 0 == g + 0) = true := by simp
          have eg' : (g == g) = true := by simp
          have e8 : ((ev == 8) == (ev == 8)) = true := by simp
          clear h0
          go_wp2
          go_ret
          exact ⟨by simp, by have hB := H4.out; go_grown⟩
  · have HR := Lib.hid (nx_arg hA)
    clear hA
    go_enter Tryd.func5, Tryd.ntmps5
    go_wp2_with fail
    refine (awake_any _ HT.out).mono ?_
    rintro e' w_h1 ⟨rfl, h1⟩
    have H1 := Lib.hid h1
    clear h1
    go_wp2_with fail
    refine (next_any w ev cpu HU.out HE.out _ (HT.out.below H1.out)).mono ?_
    rintro e' w_h2 ⟨rfl, h2⟩
    have H2 := Lib.hid (bOn H1.out h2)
    clear h2
    rw [HR.out.1, HR.out.2]
    go_wp2
    go_ret
    exact ⟨rfl, H2.out⟩

theorem met (os : Os) : laidMet Tryd.prog Rows.lifeRightRow.laid ((laidWorld os).forCall (fun _ _ => 0) ⟨#[], #[.int .u64 0, .int .i64 0, .int .i64 0], []⟩).memory := laidMet_of_run' 8 (by kernel_rfl) (by kernel_rfl)
theorem reads (os : Os) {H : Type} (enc : TypeId × Value → H) : ∃ ps, DataW.whole enc Tryd.prog ((laidWorld os).forCall (fun _ _ => 0) ⟨#[], #[.int .u64 0, .int .i64 0, .int .i64 0], []⟩).memory Tryd.f5.params.toList Rows.lifeRightSpec.vars false #[Value.int .u64 0, Value.int .i64 0, Value.int .i64 0].toList 8 = some ([.lit (.int .u64 0), .lit (.int .i64 0), .lit (.int .i64 0)], [], ps) := ⟨[], by kernel_rfl⟩
set_option maxRecDepth 100000 in
theorem lifted (os : Os) (started : os.Started) (H : Type) (enc : TypeId × Value → H) (F : Stop.Interp) :
    ReturnsInHanded {} Tryd.checked os 5 .any ((OpenSpec.ofChange Rows.lifeRightSpec).preRow enc Tryd.prog Tryd.f5 Rows.lifeRightRow.domain false Rows.lifeRightRow.laid) (((OpenSpec.ofChange Rows.lifeRightSpec).at F).post enc Tryd.prog Tryd.f5 false true false false) := by
  obtain ⟨ps, hx⟩ := reads os enc
  refine returnsInHanded_of_row (C := Tryd.checked) (s := OpenSpec.ofChange Rows.lifeRightSpec) own started (by kernel_rfl) Tryd.func5 (witness_row_at (enc := enc) (C := Tryd.checked) false (laidWorld os) #[.int .u64 0, .int .i64 0, .int .i64 0] rfl (by kernel_rfl) (by kernel_rfl) (by kernel_rfl) (OpenSpec.preRow_of_cond 8 hx (by kernel_rfl) (fun k hk => by cases hk) (by kernel_rfl) (met os))) ?_
  intro W base args ds gs before hval0 hW _ _ _ hL _ _
  have hval : ∀ (j : Nat) t v, Tryd.f5.params[j]? = some t → args[j]? = some v → Value.okWide Tryd.prog W .any base t v := hval0
  have hW' := hW
  obtain ⟨p, q, hA0, hV, rfl, -, -⟩ := hW
  have hA : DataW.TrodAll enc Tryd.prog W 0 (fun _ => true) true Tryd.f5.params.toList args.toList ds p := hA0
  rw [Tryd.params5] at hA hval
  obtain ⟨v0, vs0, d0, ds0, p0, q0, hargs, rfl, rfl, h0, r0⟩ := trodAll_cons hA
  obtain ⟨v1, vs1, d1, ds1, p1, q1, rfl, rfl, rfl, h1, r1⟩ := trodAll_cons r0
  obtain ⟨v2, vs2, d2, ds2, p2, q2, rfl, rfl, rfl, h2, r2⟩ := trodAll_cons r1
  obtain ⟨rfl, rfl, rfl⟩ := trodAll_nil r2
  obtain rfl : args = #[v0, v1, v2] := by cases args; simp_all
  obtain ⟨rfl, rfl⟩ := trodVars_none hV
  obtain ⟨a0, rfl, rfl, rfl, w0⟩ := open_int Tryd.underlying22 (hval 0 22 v0 rfl rfl) h0
  obtain ⟨a1, rfl, rfl, rfl, w1⟩ := open_int Tryd.underlying3 (hval 1 3 v1 rfl rfl) h1
  obtain ⟨a2, rfl, rfl, rfl, w2⟩ := open_int Tryd.underlying3 (hval 2 3 v2 rfl rfl) h2
  clear hA0 hval0
  refine (walk a0 a1 a2 w0 w1 w2 W (tab_laid hL)).mono fun e W' ⟨he, hb⟩ => ?_
  subst he
  exact ⟨_, rfl, post_law laidOut (by kernel_rfl) rfl (by kernel_rfl) Tryd.underlying4 hW' rfl hb⟩

theorem row : Rows.LifeRightSaid :=
  OpenClaim.holds_of_cond 5 Tryd.f5 rfl rfl rfl rfl rfl rfl rfl ⟨rfl, rfl, rfl, rfl, rfl⟩ rfl rfl rfl rfl rfl (by kernel_rfl) Tryd.func5 (by kernel_rfl)
    (of_decide_eq_true (by kernel_rfl)) (by unfold Func.isWrapper; first | (rw [if_pos (by decide +kernel)]; kernel_rfl) | (rw [if_neg (by decide +kernel)]; exact ⟨rfl, rfl⟩))
    (fun os started H enc _ F => by rw [OpenClaim.pre_eq_preRow]; exact lifted os started H enc F)
theorem simple (f : FuncId) (fn : Func) (hf : Tryd.pinned.checked.prog.funcNamed Rows.lifeRightRow.func = some f) (hfn : Tryd.pinned.checked.prog.funcs[f]? = some fn) :
    false = Tryd.pinned.checked.prog.looks [] ∧ ∀ (j : Nat) t, fn.params[j]? = some t → Tryd.pinned.checked.prog.wantsStandIn t = false := by
  have e1 : Tryd.prog.funcNamed Rows.lifeRightRow.func = some 5 := by kernel_rfl
  cases e1.symm.trans hf
  cases Tryd.func5.symm.trans hfn
  exact ⟨by kernel_rfl, no_stand (P := Tryd.prog) (by kernel_rfl)⟩
/-- **LifeRight**: the given statement, a tied card. -/
theorem proved : Rows.LifeRightCardSaid :=
  Claim7.holds_tied_plain_at .later [] _ _ _ _ row (fun _ h => by cases h) (by kernel_rfl) (fun _ h => by cases h) lifeRight_row_tie rfl ⟨rfl, rfl⟩ (by kernel_rfl) rfl simple (by kernel_rfl)

end Go.Proofs.YtijbnojcehjcaaaDoor.lifeRight
