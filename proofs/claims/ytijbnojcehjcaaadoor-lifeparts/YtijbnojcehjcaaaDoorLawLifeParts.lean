/-
  LifeParts returns true at every input, and turns nothing that was there: events that are played in two parts come to what they come to at once, if none of the first part has an error. The table of places is tied to the program's text.
-/
import Derived.Test.YtijbnojcehjcaaaDoorLfU
import Derived.Test.YtijbnojcehjcaaaDoorPkL
import Derived.Test.YtijbnojcehjcaaaDoorPost
namespace Go.Proofs.YtijbnojcehjcaaaDoor.lifeParts
open Go.ChangeShapes Go.WideShapes Go.ChangeAt Go.RowKit Pk Lf

/-- One part behind the other: both are told. -/
theorem parts_stop {w : Int} {X : List (Int × Int)} (Y : List (Int × Int)) (h : (pl w X).2 < X.length) : pl w (X ++ Y) = pl w X := by
  rw [pl_append, if_neg (by omega)]
theorem parts_on {w : Int} {X : List (Int × Int)} (Y : List (Int × Int)) (h : (pl w X).2 = X.length) : pl w (X ++ Y) = ((pl (pl w X).1 Y).1, X.length + (pl (pl w X).1 Y).2) := by
  rw [pl_append, if_pos h]

set_option maxRecDepth 100000 in
set_option maxHeartbeats 4000000 in
theorem walk (w : Int) (va : Value) (za : List Int) (vb : Value) (zb : List Int) (W : World) (hw : (Lit.int .u64 w).wf = true) (ha : Ints .u16 W va za) (hb : Ints .u16 W vb zb) (hT : Tab W) :
    Calls Tryd.prog 9 #[.int .u64 w, va, vb] W fun e w' => e = .returned (.bool true) ∧ Below W.heap.size W w' := by
  have HT := Lib.hid hT
  have HU := Lib.hid (pkU_of_wf hw)
  have HA := Lib.hid ha
  have HB := Lib.hid hb
  have HXW := Lib.hid (stepsL_wf za)
  have HYW := Lib.hid (stepsL_wf zb)
  have HXL := Lib.hid (stepsL_len za)
  have HYL := Lib.hid (stepsL_len zb)
  clear hT hw
  obtain ⟨aa, la, ca, rfl⟩ : ∃ a l c, va = .slice a l c := by obtain ⟨a, c, rfl, -⟩ := ha; exact ⟨_, _, _, rfl⟩
  obtain ⟨ab, lb, cb, rfl⟩ : ∃ a l c, vb = .slice a l c := by obtain ⟨a, c, rfl, -⟩ := hb; exact ⟨_, _, _, rfl⟩
  clear ha hb
  go_enter Tryd.func9, Tryd.ntmps9
  go_wp2_with fail
  refine (awake_any _ HT.out).mono ?_
  rintro e' w_h1 ⟨rfl, h1⟩
  have H1 := Lib.hid h1
  clear h1
  go_wp2_with fail
  refine (steps_any za _ _ (HA.out.below H1.out)).mono ?_
  rintro e' w2 ⟨⟨vx, rfl, hx⟩, h2⟩
  have HPX := Lib.hid (hx.prs HXW.out)
  have H2 := Lib.hid (bOn H1.out h2)
  clear h2 hx
  go_wp2_with fail
  refine (steps_any zb _ _ (HB.out.below H2.out)).mono ?_
  rintro e' w3 ⟨⟨vy, rfl, hy⟩, h3⟩
  have HPY := Lib.hid (hy.prs HYW.out)
  have H3 := Lib.hid (bOn H2.out h3)
  have HPX3 := Lib.hid (HPX.out.below h3)
  clear h3 hy HPX HXW HYW
  generalize stepsL za = X at *
  generalize stepsL zb = Y at *
  obtain ⟨ax, cx, hvx⟩ : ∃ a c, vx = .slice a X.length c := by obtain ⟨a, c, rfl, -⟩ := HPX3.out; exact ⟨_, _, rfl⟩
  obtain ⟨ay, cy, hvy⟩ : ∃ a c, vy = .slice a Y.length c := by obtain ⟨a, c, rfl, -⟩ := HPY.out; exact ⟨_, _, rfl⟩
  subst hvx hvy
  obtain ⟨nx, hnx⟩ : ∃ n, X.length = n := ⟨_, rfl⟩
  obtain ⟨ny, hny⟩ : ∃ n, Y.length = n := ⟨_, rfl⟩
  have HNX := Lib.hid hnx
  have HNY := Lib.hid hny
  have hn6 : nx ≤ 60 := by rw [← hnx]; exact HXL.out
  rw [hnx] at HPX3 ⊢
  rw [hny] at HPY ⊢
  clear hnx hny
  go_wp2_with fail
  refine (play_any w HU.out X _ _ (HT.out.below H3.out) HPX3.out).mono ?_
  rintro e' w_h4 ⟨rfl, h4⟩
  have H4 := Lib.hid (bOn H3.out h4)
  have HPX4 := Lib.hid (HPX3.out.below h4)
  have HPY4 := Lib.hid (HPY.out.below h4)
  have HN4 := Lib.hid (OwnP.nil w_h4 w_h4.heap.size 40)
  have HU4 := Lib.hid (pl_U HU.out X)
  have HLE := Lib.hid (pl_le w X)
  clear h4 HPX3 HPY
  go_wp2_with (first
    | (at_builtin; (refine wpList_append_prs (bytes := 16) rfl (.const (.slice none 0 0)) (.tmp 31) 30 rfl w_h4.heap.size 40 Tryd.underlying30 info_pair (by decide) [] X HN4.out HPX4.out (by have := HXL.out; simp; omega) (Nat.le_refl _) ?_); intro v5 w5 hown5 hbel5; have HO5 := Lib.hid hown5; have HB5 := Lib.hid hbel5; clear hown5 hbel5)
    | (at_builtin; (refine wpList_append_prs (bytes := 16) rfl (.tmp 32) (.tmp 33) 30 rfl w_h4.heap.size 40 Tryd.underlying30 info_pair (by decide) ([] ++ X) Y HO5.out (HPY4.out.below HB5.out) (by have := HXL.out; have := HYL.out; simp; omega) HB5.out.size ?_); intro v6 w6 hown6 hbel6; have HO6 := Lib.hid hown6; have HB6 := Lib.hid hbel6; clear hown6 hbel6)
    | fail)
  have HW6 : Hid (∀ x ∈ [] ++ X ++ Y, (Lit.int .i64 x.1).wf = true ∧ (Lit.int .i64 x.2).wf = true) := Lib.hid (fun x hx => by
    rw [List.nil_append, List.mem_append] at hx
    rcases hx with hx | hx
    · exact HPX4.out.wf x hx
    · exact HPY4.out.wf x hx)
  have H6 := Lib.hid (bOn H4.out (HB5.out.trans HB6.out))
  have HP6 : Hid (Prs w6 v6 (X ++ Y)) := Lib.hid (by have := HO6.out.prs HW6.out; rwa [List.nil_append] at this)
  have HPY6 := Lib.hid (HPY4.out.below (HB5.out.trans HB6.out))
  clear HB5 HB6 HO5 HO6 HW6
  go_wp2_with fail
  refine (play_any w HU.out (X ++ Y) _ _ (HT.out.below H6.out) HP6.out).mono ?_
  rintro e' w_h7 ⟨rfl, h7⟩
  have H7 := Lib.hid (bOn H6.out h7)
  have HPY7 := Lib.hid (HPY6.out.below h7)
  clear h7 HPY6 HP6
  by_cases hlt : (pl w X).2 < X.length
  · have HR := Lib.hid (parts_stop Y hlt)
    rw [HR.out]
    rw [HNX.out] at hlt
    generalize (pl w X).1 = v at *
    generalize (pl w X).2 = n at *
    have ev : (v == v) = true := by simp
    have en : ((n : Int) == (n : Int)) = true := by simp
    go_wp2
    go_ret
    exact ⟨rfl, H7.out⟩
  · have heq : (pl w X).2 = X.length := by have := HLE.out; omega
    have HR := Lib.hid (parts_on Y heq)
    rw [HR.out, heq]
    rw [HNX.out]
    clear hlt heq HR HLE
    generalize (pl w X).1 = v at *
    go_wp2_with fail
    refine (play_any v HU4.out Y _ _ (HT.out.below H7.out) HPY7.out).mono ?_
    rintro e' w_h8 ⟨rfl, h8⟩
    have H8 := Lib.hid (bOn H7.out h8)
    have hk6 : (pl v Y).2 ≤ 60 := Nat.le_trans (pl_le v Y) HYL.out
    clear h8
    generalize (pl v Y).1 = t at *
    generalize (pl v Y).2 = k at *
    have et : (t == t) = true := by simp
    have ek : (((nx + k : Nat) : Int) == (nx : Int) + (k : Int)) = true := by simp
    go_wp2
    go_ret
    exact ⟨by simp, H8.out⟩

theorem met (os : Os) : laidMet Tryd.prog Rows.lifePartsRow.laid ((laidWorld os).forCall (fun _ _ => 0) ⟨#[], #[.int .u64 0, .slice none 0 0, .slice none 0 0], []⟩).memory := laidMet_of_run' 8 (by kernel_rfl) (by kernel_rfl)
theorem reads (os : Os) {H : Type} (enc : TypeId × Value → H) : ∃ ps, DataW.whole enc Tryd.prog ((laidWorld os).forCall (fun _ _ => 0) ⟨#[], #[.int .u64 0, .slice none 0 0, .slice none 0 0], []⟩).memory Tryd.f9.params.toList Rows.lifePartsSpec.vars false #[Value.int .u64 0, Value.slice none 0 0, Value.slice none 0 0].toList 8 = some ([.lit (.int .u64 0), .nil, .nil], [], ps) := ⟨[], by kernel_rfl⟩
set_option maxRecDepth 100000 in
theorem lifted (os : Os) (started : os.Started) (H : Type) (enc : TypeId × Value → H) (F : Stop.Interp) :
    ReturnsInHanded {} Tryd.checked os 9 .any ((OpenSpec.ofChange Rows.lifePartsSpec).preRow enc Tryd.prog Tryd.f9 Rows.lifePartsRow.domain false Rows.lifePartsRow.laid) (((OpenSpec.ofChange Rows.lifePartsSpec).at F).post enc Tryd.prog Tryd.f9 false true false false) := by
  obtain ⟨ps, hx⟩ := reads os enc
  refine returnsInHanded_of_row (C := Tryd.checked) (s := OpenSpec.ofChange Rows.lifePartsSpec) own started (by kernel_rfl) Tryd.func9 (witness_row_at (enc := enc) (C := Tryd.checked) false (laidWorld os) #[.int .u64 0, .slice none 0 0, .slice none 0 0] rfl (by kernel_rfl) (by kernel_rfl) (by kernel_rfl) (OpenSpec.preRow_of_cond 8 hx (by kernel_rfl) (fun k hk => by cases hk) (by kernel_rfl) (met os))) ?_
  intro W base args ds gs before hval0 hW _ _ _ hL _ _
  have hval : ∀ (j : Nat) t v, Tryd.f9.params[j]? = some t → args[j]? = some v → Value.okWide Tryd.prog W .any base t v := hval0
  have hW' := hW
  obtain ⟨p, q, hA0, hV, rfl, -, -⟩ := hW
  have hA : DataW.TrodAll enc Tryd.prog W 0 (fun _ => true) true Tryd.f9.params.toList args.toList ds p := hA0
  rw [Tryd.params9] at hA hval
  obtain ⟨v0, vs0, d0, ds0, p0, q0, hargs, rfl, rfl, h0, r0⟩ := trodAll_cons hA
  obtain ⟨v1, vs1, d1, ds1, p1, q1, rfl, rfl, rfl, h1, r1⟩ := trodAll_cons r0
  obtain ⟨v2, vs2, d2, ds2, p2, q2, rfl, rfl, rfl, h2, r2⟩ := trodAll_cons r1
  obtain ⟨rfl, rfl, rfl⟩ := trodAll_nil r2
  obtain rfl : args = #[v0, v1, v2] := by cases args; simp_all
  obtain ⟨rfl, rfl⟩ := trodVars_none hV
  obtain ⟨a0, rfl, rfl, rfl, w0⟩ := open_int Tryd.underlying22 (hval 0 22 v0 rfl rfl) h0
  obtain ⟨a1, w1⟩ := ints_arg Tryd.underlying38 Tryd.underlying54 (by kernel_rfl) (hval 1 38 v1 rfl rfl) h1
  obtain ⟨a2, w2⟩ := ints_arg Tryd.underlying38 Tryd.underlying54 (by kernel_rfl) (hval 2 38 v2 rfl rfl) h2
  clear hA0 hval0
  refine (walk a0 v1 a1 v2 a2 W w0 w1 w2 (tab_laid hL)).mono fun e W' ⟨he, hb⟩ => ?_
  subst he
  exact ⟨_, rfl, post_law laidOut (by kernel_rfl) rfl (by kernel_rfl) Tryd.underlying4 hW' rfl hb⟩

theorem row : Rows.LifePartsSaid :=
  OpenClaim.holds_of_cond 9 Tryd.f9 rfl rfl rfl rfl rfl rfl rfl ⟨rfl, rfl, rfl, rfl, rfl⟩ rfl rfl rfl rfl rfl (by kernel_rfl) Tryd.func9 (by kernel_rfl)
    (of_decide_eq_true (by kernel_rfl)) (by unfold Func.isWrapper; first | (rw [if_pos (by decide +kernel)]; kernel_rfl) | (rw [if_neg (by decide +kernel)]; exact ⟨rfl, rfl⟩))
    (fun os started H enc _ F => by rw [OpenClaim.pre_eq_preRow]; exact lifted os started H enc F)
theorem simple (f : FuncId) (fn : Func) (hf : Tryd.pinned.checked.prog.funcNamed Rows.lifePartsRow.func = some f) (hfn : Tryd.pinned.checked.prog.funcs[f]? = some fn) :
    false = Tryd.pinned.checked.prog.looks [] ∧ ∀ (j : Nat) t, fn.params[j]? = some t → Tryd.pinned.checked.prog.wantsStandIn t = false := by
  have e1 : Tryd.prog.funcNamed Rows.lifePartsRow.func = some 9 := by kernel_rfl
  cases e1.symm.trans hf
  cases Tryd.func9.symm.trans hfn
  exact ⟨by kernel_rfl, no_stand (P := Tryd.prog) (by kernel_rfl)⟩
/-- **LifeParts**: the given statement, a tied card. -/
theorem proved : Rows.LifePartsCardSaid :=
  Claim7.holds_tied_plain_at .later [] _ _ _ _ row (fun _ h => by cases h) (by kernel_rfl) (fun _ h => by cases h) lifeParts_row_tie rfl ⟨rfl, rfl⟩ (by kernel_rfl) rfl simple (by kernel_rfl)

end Go.Proofs.YtijbnojcehjcaaaDoor.lifeParts
