/-
  SpreadGains returns true at every input, and turns nothing that was there: who goes may be there; what there has more than here never grows, and does not get below 0; each goes once.
-/
import Derived.Test.YtnjbcblhciblcaaSpW
import Derived.Test.YtnjbcblhciblcaaSpX
import Derived.Test.YtnjbcblhciblcaaPost
namespace Go.Proofs.Ytnjbcblhciblcaa.spreadGains
open Go.ChangeShapes Go.WideShapes Go.ChangeAt Go.RowKit Mk Sp

set_option maxRecDepth 100000 in
set_option maxHeartbeats 8000000 in
theorem walk (v : Value) (zs : List Int) (here more : Int) (w : World) (hv : Ints .u16 w v zs) (hh : (Lit.int .u32 here).wf = true) (hm : (Lit.int .u32 more).wf = true) :
    Calls Try.prog 5 #[v, .int .u32 here, .int .u32 more] w fun e w' => e = .returned (.bool true) ∧ Below w.heap.size w w' := by
  have hh' := bounds_u32 hh
  have hm' := bounds_u32 hm
  have HV := Lib.hid hv
  obtain ⟨a0, cap0, rfl, -, -, -⟩ := hv
  obtain ⟨md, hmd⟩ : ∃ md, more % 200000 = md := ⟨_, rfl⟩
  have hmd2 : 0 ≤ md ∧ md < 200000 := by omega
  have hw1 : IntKind.i64.wrap here = here := by rw [IntKind.wrap_i64]; omega
  have hw2 : IntKind.i64.wrap more = more := by rw [IntKind.wrap_i64]; omega
  have hw3 : more.tmod 200000 = md := by rw [Int.tmod_eq_emod_of_nonneg hm'.1]; exact hmd
  clear hh hm hmd
  have hN : madeN zs ≤ 40 := by unfold madeN; omega
  obtain ⟨N, hNe⟩ : ∃ N, madeN zs = N := ⟨_, rfl⟩
  rw [hNe] at hN
  have HNE := Lib.hid hNe
  clear hNe
  go_enter Try.func5, Try.ntmps5
  go_wp2_with fail
  refine (awake_any _).mono ?_
  rintro e' w_b0 ⟨rfl, b0⟩
  go_wp2_with fail
  refine (made_any _ zs _ (HV.out.below b0)).mono ?_
  rintro e1 w1 ⟨u1, B1, hB1, rfl, ho1, b1⟩
  rw [HNE.out] at ho1
  have hok1 : ∀ c ∈ madeUp zs N, encC.ok c := by
    intro c hc
    obtain ⟨i, hi, rfl⟩ := madeUp_mem hc
    have hwf := HV.out.wf
    have hil : i < zs.length := by have := HNE.out; unfold madeN at this; omega
    have hmem : zs.getD i 0 ∈ zs := by
      have : zs.getD i 0 = zs[i] := by simp [List.getD, hil]
      rw [this]; exact List.getElem_mem hil
    exact mkC_ok i _ (by omega) (bounds_u16 (hwf _ hmem))
  have hC1 : Cs w1 u1 (madeUp zs N) := ho1.els hok1
  have HC1 := Lib.hid hC1
  have B01 := Lib.hid (bOn b0 b1)
  have HGD := Lib.hid (made_good (to := 3) (h := here) (t := here + md) (most := 40) (zs := zs) hN (by omega) (by omega) (by omega) (by omega))
  have HWK := Lib.hid (walks_plan (to := 3) (h := here) (t := here + md) (most := 40) (placed_made zs N))
  rw [madeUp_len] at HWK
  have HGW := Lib.hid (planG_wf (to := 3) (h := here) (t := here + md) (most := 40) hok1)
  have HGL := Lib.hid (planG_len (to := 3) (h := here) (t := here + md) (most := 40) (l := madeUp zs N))
  have HML := Lib.hid (madeUp_len zs N)
  clear b0 b1 ho1 hB1 hok1 hC1
  have HLD : Hid (Ok ⟨[], here, here + md⟩) := ⟨by dsimp only; omega, by dsimp only; omega⟩
  obtain ⟨au, cu, rfl, hcu1, hcu2⟩ := HC1.out.shape
  rw [madeUp_len] at HC1 hcu1 ⊢
  generalize madeUp zs N = c at *
  have hcu3 : cu ≤ 9223372036854775807 := by unfold maxLen at hcu2; omega
  clear hcu2
  go_wp2_with fail
  refine (plan_any 3 here (here + md) 40 _ c _ HC1.out).mono ?_
  rintro e2 w2 ⟨u2, B2, hB2, rfl, ho2, b2⟩
  rw [HGD.out.1]
  rw [HGD.out.2] at ho2 HGW HGL
  have B02 := Lib.hid (bOn B01.out b2)
  have HC2 := Lib.hid (HC1.out.below b2)
  generalize (planS 3 here (here + md) 40 c).gone = g at *
  have hgl : g.length ≤ 40 := by have := HGL.out; rw [HML.out] at this; omega
  have HI2 : Hid (Ints .i64 w2 u2 g) := Lib.hid (ho2.ints HGW.out)
  obtain ⟨ag, cg, rfl⟩ := own_shape ho2
  obtain ⟨gl, hgle⟩ : ∃ gl, g.length = gl := ⟨_, rfl⟩
  have HLE := Lib.hid hgle
  have hp1 := Cs.parts HC2.out
  have hp2 := HI2.out.parts
  rw [hgle] at hgl HI2 hp2 ⊢
  rw [HML.out] at hp1
  clear b2 ho2 hB2 hgle HC1 HC2 HGD B01 HNE HV
  go_wp2
  go_loop [9, 10, 13, 14, 15, 16] (fun a b la i k x => ∃ (j : Nat) (A B La : Int), j ≤ gl ∧ i = .int .i64 j ∧ a = .int .i64 A ∧ b = .int .i64 B ∧ la = .int .i64 La ∧ La ≤ N ∧ Ok ⟨[], A, B⟩ ∧ Walks 3 c La A B (g.drop j)) (fun _ _ _ i _ _ => gl - (intOf i).toNat)
  case atStart => exact ⟨0, here, here + md, N, by omega, rfl, rfl, rfl, rfl, by omega, HLD.out, HWK.out⟩
  case round =>
    obtain ⟨j, A, B, La, hj, rfl, rfl, rfl, rfl, hLa, hok, hwk⟩ := hrel
    by_cases hlt : j < gl
    · have hjg : j < g.length := by rw [HLE.out]; exact hlt
      have hd : g.drop j = g.getD j 0 :: g.drop (j + 1) := by
        have e : g.getD j 0 = g[j] := by simp [List.getD, hjg]
        rw [e, List.drop_eq_getElem_cons hjg]
      rw [hd] at hwk
      obtain ⟨q, hq1, hq2, hq3, hq4, hq5, hq6⟩ := hwk
      rw [HML.out] at hq3
      rcases hp2 with ⟨h0, -⟩ | ⟨-, -, bg, og, cg', hge, -, hcg⟩
      · rw [h0] at hjg; exact absurd hjg (Nat.not_lt_zero _)
      obtain ⟨rfl, rfl⟩ : ag = some ⟨bg, og, none⟩ ∧ cg = cg' := by cases hge; exact ⟨rfl, rfl⟩
      rcases hp1 with ⟨h0, -⟩ | ⟨-, bc, oc, cc', hce, hcc', -, hcc⟩
      · rw [h0] at HML; have := HML.out; simp at this; omega
      obtain ⟨rfl, rfl⟩ : au = some ⟨bc, oc, none⟩ ∧ cu = cc' := by cases hce; exact ⟨rfl, rfl⟩
      have cj := hcg j hlt
      rw [hq1] at cj
      obtain ⟨d0, d1, d2⟩ := hcc q hq3
      have HM3 := (may3_at (c.getD q default).m).1 hq4
      have hgn := (gain_iff _ _ _).1 hq5
      have HOK2 : Hid (Ok ⟨[], A + (c.getD q default).wt, B - (c.getD q default).wt⟩) := by
        have := stp_ok (most := 1) (s := ⟨[], A, B⟩) (c.getD q default) hok
        rw [stp_yes hq5 (by simp)] at this
        exact ⟨this.1, this.2⟩
      have HQ6 := Lib.hid hq6
      have hqN : q < N := hq3
      have hqL : (q : Int) < La := hq2
      clear hcg hcc hge hce hd hq1 hq4 hq5 hq6 hok hjg
      generalize c.getD q default = cc at *
      obtain ⟨ci, cw, cm⟩ := cc
      dsimp only at d0 d1 d2 HM3 hgn HOK2 HQ6
      have hk2 : ((IntKind.u64.wrap ((cm : Int) / 8)).tmod 2 == 0) = false := by
        have e : IntKind.u64.wrap ((cm : Int) / 8) = (cm : Int) / 8 % 18446744073709551616 := IntKind.wrap_u64 _
        have : (IntKind.u64.wrap ((cm : Int) / 8)).tmod 2 = 1 := by rw [e, Int.tmod_eq_emod_of_nonneg (by omega)]; omega
        rw [this]; rfl
      go_wp2
      exact ⟨⟨j + 1, A + cw, B - cw, (q : Int), by omega, by go_num, by go_num, by go_num, by go_num, by omega, HOK2.out, HQ6.out⟩, by simp [intOf]; omega⟩
    · obtain rfl : j = gl := by omega
      clear hp1 hp2 hwk hok
      go_wp2
      go_ret
      exact ⟨rfl, B02.out⟩

set_option maxRecDepth 100000 in
theorem lifted (os : Os) (started : os.Started) (H : Type) (enc : TypeId × Value → H) :
    ReturnsInHanded {} Try.checked os 5 .any (Rows.spreadGainsSpec.pre6 enc Try.prog Try.f5 Rows.spreadGainsRow.domain false) (Rows.spreadGainsSpec.post enc Try.prog Try.f5 false true false false) := by
  refine returnsInHanded_of_change (C := Try.checked) own started (by kernel_rfl) Try.func5
    (ChangeSpec.witness6 (enc := enc) (C := Try.checked) false ⟨#[], #[.slice none 0 0, .int .u32 0, .int .u32 0], []⟩ 8 (by kernel_rfl) (by kernel_rfl) (by kernel_rfl) (by kernel_rfl)) ?_
  intro W base args ds gs before hval0 hW _ _
  have hval : ∀ (j : Nat) t v, Try.f5.params[j]? = some t → args[j]? = some v → Value.okWide Try.prog W .any base t v := hval0
  have hW' := hW
  obtain ⟨p, q, hA0, hV, rfl, -, -⟩ := hW
  have hA : DataW.TrodAll enc Try.prog W 0 (fun _ => true) true Try.f5.params.toList args.toList ds p := hA0
  rw [Try.params5] at hA hval
  obtain ⟨v0, vs0, d0, ds0, p0, q0, hargs, rfl, rfl, h0, r0⟩ := trodAll_cons hA
  obtain ⟨v1, vs1, d1, ds1, p1, q1, rfl, rfl, rfl, h1, r1⟩ := trodAll_cons r0
  obtain ⟨v2, vs2, d2, ds2, p2, q2, rfl, rfl, rfl, h2, r2⟩ := trodAll_cons r1
  obtain ⟨rfl, rfl, rfl⟩ := trodAll_nil r2
  obtain rfl : args = #[v0, v1, v2] := by cases args; simp_all
  obtain ⟨rfl, rfl⟩ := trodVars_none hV
  obtain ⟨a0, w0⟩ := ints_arg Try.underlying36 Try.underlying53 (by kernel_rfl) (hval 0 36 v0 rfl rfl) h0
  obtain ⟨a1, rfl, rfl, rfl, w1⟩ := open_int Try.underlying37 (hval 1 37 v1 rfl rfl) h1
  obtain ⟨a2, rfl, rfl, rfl, w2⟩ := open_int Try.underlying37 (hval 2 37 v2 rfl rfl) h2
  clear hA0 hval0
  refine (walk v0 a0 a1 a2 W w0 w1 w2).mono fun e W' ⟨he, hb⟩ => ?_
  subst he
  exact ⟨_, rfl, post_law laidOut (by kernel_rfl) rfl (by kernel_rfl) Try.underlying4 hW' rfl hb⟩

/-- **SpreadGains**: the given statement. -/
theorem proved : Rows.SpreadGainsSaid :=
  OpenClaim.holds_of_wide 5 Try.f5 rfl rfl rfl rfl rfl rfl rfl ⟨rfl, rfl, rfl, rfl, rfl⟩ rfl rfl rfl rfl rfl (by kernel_rfl) Try.func5 (by kernel_rfl)
    (of_decide_eq_true (by kernel_rfl)) (by unfold Func.isWrapper; first | (rw [if_pos (by decide +kernel)]; kernel_rfl) | (rw [if_neg (by decide +kernel)]; exact ⟨rfl, rfl⟩))
    (fun os started H enc _ => lifted os started H enc)
end Go.Proofs.Ytnjbcblhciblcaa.spreadGains
