/-
  SpreadDone returns true at every input, and turns nothing that was there: behind all that go nobody who may is a gain still; planned again, of who is left, nobody goes.
-/
import Derived.Test.YtnjbcblhciblcaaSpW
import Derived.Test.YtnjbcblhciblcaaSpD
import Derived.Test.YtnjbcblhciblcaaPost
namespace Go.Proofs.Ytnjbcblhciblcaa.spreadDone
open Go.ChangeShapes Go.WideShapes Go.ChangeAt Go.RowKit Mk Sp

theorem take_has (g : List Int) (m : Nat) (hm : m < g.length) (i : Int) : (g.take (m + 1)).contains i = ((g.take m).contains i || (g.getD m 0 == i)) := by
  have e : g.getD m 0 = g[m] := by simp [List.getD, hm]
  rw [e, List.take_succ_eq_append_getElem hm]
  simp only [List.contains_eq_mem, List.mem_append, List.mem_singleton]
  by_cases h1 : i ∈ g.take m
  · simp [h1]
  · by_cases h2 : i = g[m]
    · simp [h2]
    · have h3 : ¬ g[m] = i := fun e => h2 e.symm
      simp [h1, h2, h3]

set_option maxRecDepth 100000 in
set_option maxHeartbeats 8000000 in
theorem walk (v : Value) (zs : List Int) (here more : Int) (w : World) (hv : Ints .u16 w v zs) (hh : (Lit.int .u32 here).wf = true) (hm : (Lit.int .u32 more).wf = true) :
    Calls Try.prog 6 #[v, .int .u32 here, .int .u32 more] w fun e w' => e = .returned (.bool true) ∧ Below w.heap.size w w' := by
  have hh' := bounds_u32 hh
  have hm' := bounds_u32 hm
  have HV := Lib.hid hv
  obtain ⟨a0, cap0, rfl, -, -, -⟩ := hv
  obtain ⟨md, hmd⟩ : ∃ md, more % 200000 = md := ⟨_, rfl⟩
  have hmd2 : 0 ≤ md ∧ md < 200000 := by omega
  have hw1 : IntKind.i64.wrap here = here := by rw [IntKind.wrap_i64]; omega
  have hw2 : IntKind.i64.wrap more = more := by rw [IntKind.wrap_i64]; omega
  have hw3 : more.tmod 200000 = md := by rw [Int.tmod_eq_emod_of_nonneg hm'.1]; exact hmd
  clear hh hm hmd
  have hN : madeN zs ≤ 40 := by unfold madeN; omega
  obtain ⟨N, hNe⟩ : ∃ N, madeN zs = N := ⟨_, rfl⟩
  rw [hNe] at hN
  have HNE := Lib.hid hNe
  clear hNe
  go_enter Try.func6, Try.ntmps6
  go_wp2_with fail
  refine (awake_any _).mono ?_
  rintro e' w_b0 ⟨rfl, b0⟩
  go_wp2_with fail
  refine (made_any _ zs _ (HV.out.below b0)).mono ?_
  rintro e1 w1 ⟨u1, B1, hB1, rfl, ho1, b1⟩
  rw [HNE.out] at ho1
  have hok1 : ∀ c ∈ madeUp zs N, encC.ok c := by
    intro c hc
    obtain ⟨i, hi, rfl⟩ := madeUp_mem hc
    have hwf := HV.out.wf
    have hil : i < zs.length := by have := HNE.out; unfold madeN at this; omega
    have hmem : zs.getD i 0 ∈ zs := by
      have : zs.getD i 0 = zs[i] := by simp [List.getD, hil]
      rw [this]; exact List.getElem_mem hil
    exact mkC_ok i _ (by omega) (bounds_u16 (hwf _ hmem))
  have HC1 : Hid (Cs w1 u1 (madeUp zs N)) := ho1.els hok1
  have B01 := Lib.hid (bOn b0 b1)
  have HML := Lib.hid (madeUp_len zs N)
  have HGD := Lib.hid (made_good (to := 3) (h := here) (t := here + md) (most := (N : Int)) (zs := zs) hN (by omega) (by omega) (by omega) (by omega))
  have hwt : ∀ i, i < (madeUp zs N).length → 1 ≤ wtAt (madeUp zs N) i ∧ wtAt (madeUp zs N) i ≤ 88761 := by
    intro i hi
    rw [madeUp_len] at hi
    unfold wtAt
    rw [madeUp_at zs N i hi]
    exact wT_ok _
  have HGW := Lib.hid (planG_wf (to := 3) (h := here) (t := here + md) (most := (N : Int)) hok1)
  have HDN := done_plan (to := 3) (h := here) (t := here + md) (most := (N : Int)) (placed_made zs N) hwt ⟨by dsimp only; omega, by dsimp only; omega⟩ (by rw [madeUp_len]; omega)
  have HWA := Lib.hid (madeUp_wt zs N)
  have HOKS := Lib.hid hok1
  have HWT := Lib.hid hwt
  rw [madeUp_len] at HDN HWT
  clear b0 b1 ho1 hB1 hok1 hwt
  obtain ⟨au, cu, rfl, hcu1, hcu2⟩ := HC1.out.shape
  rw [madeUp_len] at HC1 hcu1 ⊢
  generalize madeUp zs N = c at *
  have hcu3 : cu ≤ 9223372036854775807 := by unfold maxLen at hcu2; omega
  clear hcu2
  go_wp2_with fail
  refine (plan_any 3 here (here + md) N _ c _ HC1.out).mono ?_
  rintro e2 w2 ⟨u2, B2, hB2, rfl, ho2, b2⟩
  rw [HGD.out.1]
  rw [HGD.out.2] at ho2 HGW
  have B02 := Lib.hid (bOn B01.out b2)
  have HC2 := Lib.hid (HC1.out.below b2)
  obtain ⟨g, hg1, hg2, hg3, hg4⟩ := HDN
  rw [hg1] at ho2 HGW
  have HI2 : Hid (Ints .i64 w2 u2 g) := Lib.hid (ho2.ints HGW.out)
  obtain ⟨ag, cg, rfl⟩ := own_shape ho2
  obtain ⟨gl, hgle⟩ : ∃ gl, g.length = gl := ⟨_, rfl⟩
  have HLE := Lib.hid hgle
  have hp1 := Cs.parts HC2.out
  have hp2 := HI2.out.parts
  have HG2 := Lib.hid hg2
  have HG3 := Lib.hid hg3
  rw [hgle] at HI2 hp2 hg4 ⊢
  have HG4 := Lib.hid hg4
  have hgl : gl ≤ 40 := by omega
  rw [HML.out] at hp1
  have HSL := Lib.hid (fun k hk => sumU_le (g := g) (fun i hi => HWT.out i (by rw [HML.out] at hi; exact hi)) k (by rw [HML.out]; exact hk))
  clear b2 ho2 hB2 hgle HC1 HC2 HGD B01 HNE HV hg1 hg2 hg3 hg4 HGW
  go_wp2
  go_loopw [9, 10, 13, 14, 15, 16] (fun a b r i gs k wr => ∃ j : Nat, j ≤ N ∧ i = .int .i64 j ∧ a = .int .i64 (here + sumU c g j) ∧ b = .int .i64 (here + md - sumU c g j) ∧ OwnE encC wr w2.heap.size 41 r (restU c g j) ∧ Below w2.heap.size w2 wr) (fun _ _ _ i _ _ _ => N - (intOf i).toNat)
  case atStart => exact ⟨0, by omega, rfl, by simp [sumU], by simp [sumU], OwnE.nil _ _ _, Below.refl _ _⟩
  case round =>
    obtain ⟨j, hj, rfl, rfl, rfl, hown, hnx⟩ := hrel
    by_cases hlt : j < N
    · rcases hp1 with ⟨h0, -⟩ | ⟨-, bc, oc, cc', hce, -, hbc, hcc⟩
      · rw [h0] at HML; have := HML.out; simp at this; omega
      obtain ⟨rfl, rfl⟩ : au = some ⟨bc, oc, none⟩ ∧ cu = cc' := by cases hce; exact ⟨rfl, rfl⟩
      obtain ⟨d0, d1, d2⟩ := hcc j hlt
      rw [← hnx.cell (p := ⟨bc, oc + j * 3, none⟩) hbc] at d0
      rw [← hnx.cell (p := ⟨bc, oc + j * 3 + 1, none⟩) hbc] at d1
      rw [← hnx.cell (p := ⟨bc, oc + j * 3 + 2, none⟩) hbc] at d2
      have hw := HWT.out j hlt
      have hsl := HSL.out j (by omega)
      have HOKC : Hid (encC.ok (c.getD j default)) := by
        have hjl : j < c.length := by rw [HML.out]; exact hlt
        have ec : c.getD j default = c[j] := by simp [List.getD, hjl]
        unfold Hid
        rw [ec]; exact HOKS.out _ (List.getElem_mem hjl)
      have HRL := Lib.hid (restU_len (c := c) (g := g) j)
      have HOW := Lib.hid hown
      have HNX := Lib.hid hnx
      obtain ⟨wr0, rfl⟩ : ∃ X, X = wr := ⟨_, rfl⟩
      clear hcc hce hown
      unfold wtAt at hw
      have HSY := Lib.hid (fun h => sumU_yes (c := c) (g := g) (k := j) h)
      have HSN := Lib.hid (fun h => sumU_no (c := c) (g := g) (k := j) h)
      have HRY := Lib.hid (fun h => restU_yes (c := c) (g := g) (k := j) h)
      have HRN := Lib.hid (fun h => restU_no (c := c) (g := g) (k := j) h)
      unfold wtAt at HSY
      generalize c.getD j default = cc at *
      obtain ⟨ci, cw, cm⟩ := cc
      dsimp only at d0 d1 d2 hw HSY
      generalize sumU c g j = su at *
      go_wp2
      go_loopw [15, 16] (fun gs k wx => wr0 = wx ∧ ∃ m : Nat, m ≤ gl ∧ k = .int .i64 m ∧ gs = .bool ((g.take m).contains (j : Int))) (fun _ k _ => gl - (intOf k).toNat)
      case atStart => exact ⟨rfl, 0, by omega, rfl, by simp⟩
      case round =>
        obtain ⟨rfl, m, hm, rfl, rfl⟩ := hrel
        by_cases hmg : m < gl
        · rcases hp2 with ⟨h0, -⟩ | ⟨-, -, bg, og, cg', hge, hbg, hcg⟩
          · rw [h0] at HLE; have := HLE.out; simp at this; omega
          obtain ⟨rfl, rfl⟩ : ag = some ⟨bg, og, none⟩ ∧ cg = cg' := by cases hge; exact ⟨rfl, rfl⟩
          have cj := hcg m hmg
          rw [← HNX.out.cell (p := ⟨bg, og + m, none⟩) hbg] at cj
          have HTH := Lib.hid (take_has g m (by rw [HLE.out]; exact hmg) (j : Int))
          clear hcg hge
          generalize g.getD m 0 = gm at *
          cases hb : (g.take m).contains (j : Int) with
          | true =>
            rw [hb] at HTH
            clear hb
            go_wp2
            exact ⟨⟨trivial, m + 1, by omega, by go_num, by rw [HTH.out]; rfl⟩, by simp [intOf]; omega⟩
          | false =>
            rw [hb] at HTH
            clear hb
            go_wp2
            exact ⟨⟨trivial, m + 1, by omega, by go_num, by rw [HTH.out]; rfl⟩, by simp [intOf]; omega⟩
        · obtain rfl : m = gl := by omega
          have ht : g.take m = g := by rw [← HLE.out, List.take_length]
          rw [ht]
          clear ht
          cases hb : g.contains (j : Int) with
          | true =>
            have e1 := HSY.out hb
            have e2 := HRY.out hb
            have E1 := Lib.hid e1
            have E2 := Lib.hid e2
            clear hb e1 e2
            go_wp2
            exact ⟨⟨j + 1, by omega, by go_num, by rw [E1.out]; go_num, by rw [E1.out]; go_num, by rw [E2.out]; exact HOW.out, HNX.out⟩, by simp [intOf]; omega⟩
          | false =>
            have E1 := Lib.hid (HSN.out hb)
            have E2 := Lib.hid (HRN.out hb)
            have HN1 := Lib.hid (els_new (E := encC) wr0 41 [⟨ci, cw, cm⟩] (by intro x hx; simp at hx; subst hx; exact HOKC.out) #[.int .i64 ci, .int .i64 cw, .int .u64 (cm : Int)] rfl 1 rfl _ rfl 1 ⟨by simp, by unfold maxLen; decide⟩)
            have hsz := HNX.out.size
            clear hb
            go_wp2_with (at_builtin; go_loud (refine wpList_append_els encC rfl (.tmp 77) (.tmp 82) 22 rfl w2.heap.size 41 Try.underlying22 info_cand rfl (by decide) (restU c g j) [⟨ci, cw, cm⟩] (HOW.out.alloc _) HN1.out (by have := HRL.out; simp [encC]; omega) (by have := HRL.out; simp; omega) (by simp; omega) ?_); intro v' w3 hown3 hbel3)
            exact ⟨⟨j + 1, by omega, by go_num, by rw [E1.out], by rw [E1.out], by rw [E2.out]; exact hown3, (HNX.out.alloc hsz _).trans hbel3⟩, by simp [intOf]; omega⟩
    · obtain rfl : j = N := by omega
      have hbA := (HG2.out).1
      have hbB := (HG2.out).2
      dsimp only at hbA hbB
      have HG3' : Hid (∀ x ∈ restU c g j, may 3 x = true → gain (here + sumU c g j) (here + md - sumU c g j) x.wt = false) := HG3.out
      have HG4' : Hid ((restU c g j).length + gl = j) := HG4.out
      have hrok : ∀ x ∈ restU c g j, encC.ok x := by
        intro x hx
        obtain ⟨i, hi, -, rfl⟩ := restU_mem hx
        have hil : i < c.length := by rw [HML.out]; exact hi
        have ec : c.getD i default = c[i] := by simp [List.getD, hil]
        rw [ec]; exact HOKS.out _ (List.getElem_mem hil)
      have hrwt : (restU c g j).all wtOk = true := by
        rw [List.all_eq_true]
        intro x hx
        obtain ⟨i, hi, -, rfl⟩ := restU_mem hx
        have hil : i < c.length := by rw [HML.out]; exact hi
        have ec : c.getD i default = c[i] := by simp [List.getD, hil]
        rw [ec]; exact List.all_eq_true.1 HWA.out _ (List.getElem_mem hil)
      have HRC : Hid (Cs wr u13 (restU c g j)) := hown.els hrok
      have hrl := restU_len (c := c) (g := g) j
      have HNX := Lib.hid hnx
      obtain ⟨ar, cr, he13, hcr1, hcr2⟩ := HRC.out.shape
      subst he13
      have hrp := Cs.parts HRC.out
      have hcr3 : cr ≤ 9223372036854775807 := by unfold maxLen at hcr2; omega
      have HPE : Hid (planE 3 (here + sumU c g j) (here + md - sumU c g j) (j : Int) (restU c g j) = 0 ∧ planG 3 (here + sumU c g j) (here + md - sumU c g j) (j : Int) (restU c g j) = []) := by
        have hbad : bad 3 (here + sumU c g j) (here + md - sumU c g j) (j : Int) (restU c g j) = false := by
          unfold bad
          rw [(isLd_iff _).2 hbA, (isLd_iff _).2 hbB, hrwt]
          have a3 : decide ((j : Int) < 0) = false := by simp
          rw [a3]; rfl
        obtain ⟨q1, q2⟩ := plan_ok (to := 3) (h := here + sumU c g j) (t := here + md - sumU c g j) (most := (j : Int)) (l := restU c g j) (by omega) hbad
        exact ⟨q1, by rw [q2]; exact none_goes HG3'.out⟩
      obtain ⟨rl, hrle⟩ : ∃ rl, (restU c g j).length = rl := ⟨_, rfl⟩
      rw [hrle] at hrp hcr1 HG4' hrl HRC ⊢
      have HRL := Lib.hid hrle
      have hg4 := HG4'.out
      clear hown hnx hrok hrwt hp1 hp2 HG2 HG3 HG4 HSL HWT HOKS HWA hcr2 hrle HG4'
      generalize restU c g j = r at *
      generalize here + sumU c g j = A at *
      generalize here + md - sumU c g j = B at *
      go_wp2
      go_loop [17] (fun i => ∃ m : Nat, m ≤ rl ∧ i = .int .i64 m) (fun i => rl - (intOf i).toNat)
      case atStart => exact ⟨0, by omega, rfl⟩
      case round =>
        obtain ⟨m, hm, rfl⟩ := hrel
        by_cases hmr : m < rl
        · rcases hrp with ⟨h0, -⟩ | ⟨-, br, or, cr', hre, -, hbr, hcr⟩
          · rw [h0] at HRL; have := HRL.out; simp at this; omega
          obtain ⟨rfl, rfl⟩ : ar = some ⟨br, or, none⟩ ∧ cr = cr' := by cases hre; exact ⟨rfl, rfl⟩
          obtain ⟨d0, d1, d2⟩ := hcr m hmr
          have hgn := HG3'.out (r.getD m default) (by
            have hml : m < r.length := by rw [HRL.out]; exact hmr
            have ec : r.getD m default = r[m] := by simp [List.getD, hml]
            rw [ec]; exact List.getElem_mem hml)
          have hm3 := may3_at (r.getD m default).m
          have HGN := Lib.hid hgn
          have HM3 : Hid (may 3 (r.getD m default) = true ↔ (r.getD m default).m / 8 % 2 = 1) := hm3
          clear hcr hre hgn hm3
          generalize r.getD m default = x at *
          obtain ⟨xi, xw, xm⟩ := x
          dsimp only at d0 d1 d2 HGN HM3
          have ew : IntKind.u64.wrap ((xm : Int) / 8) = (xm : Int) / 8 % 18446744073709551616 := IntKind.wrap_u64 _
          by_cases ho : xm / 8 % 2 = 1
          · have hk2 : ((IntKind.u64.wrap ((xm : Int) / 8)).tmod 2 == 1) = true := by
              have : (IntKind.u64.wrap ((xm : Int) / 8)).tmod 2 = 1 := by rw [ew, Int.tmod_eq_emod_of_nonneg (by omega)]; omega
              rw [this]; rfl
            have HG5 := Lib.hid (HGN.out (HM3.out.2 ho))
            clear ew ho HGN HM3
            go_wp2_with fail
            refine (gain_any A B xw _).mono ?_
            rintro e' w' ⟨rfl, rfl⟩
            rw [HG5.out]
            go_wp2
            exact ⟨⟨m + 1, by omega, by go_num⟩, by simp [intOf]; omega⟩
          · have hk2 : ((IntKind.u64.wrap ((xm : Int) / 8)).tmod 2 == 1) = false := by
              have : (IntKind.u64.wrap ((xm : Int) / 8)).tmod 2 = 0 := by rw [ew, Int.tmod_eq_emod_of_nonneg (by omega)]; omega
              rw [this]; rfl
            clear ew ho HGN HM3
            go_wp2
            exact ⟨⟨m + 1, by omega, by go_num⟩, by simp [intOf]; omega⟩
        · obtain rfl : m = rl := by omega
          have hsum : (((m : Int) + (gl : Int)) == (j : Int)) = true := by simp; omega
          clear hrp
          go_wp2_with fail
          refine (plan_any 3 A B j _ r _ HRC.out).mono ?_
          rintro e3 w3 ⟨u3, B3, hB3, rfl, ho3, b3⟩
          rw [HPE.out.1]
          rw [HPE.out.2] at ho3
          obtain ⟨a3, c3, rfl⟩ := own_shape ho3
          have HE : Hid (Below w.heap.size w w3) := Lib.hid (bOn (bOn B02.out HNX.out) b3)
          have hl0 : (([] : List Int).length) = 0 := rfl
          rw [hl0]
          clear ho3 b3 hB3 HPE hl0
          go_wp2
          go_ret
          exact ⟨rfl, HE.out⟩

set_option maxRecDepth 100000 in
theorem lifted (os : Os) (started : os.Started) (H : Type) (enc : TypeId × Value → H) :
    ReturnsInHanded {} Try.checked os 6 .any (Rows.spreadDoneSpec.pre6 enc Try.prog Try.f6 Rows.spreadDoneRow.domain false) (Rows.spreadDoneSpec.post enc Try.prog Try.f6 false true false false) := by
  refine returnsInHanded_of_change (C := Try.checked) own started (by kernel_rfl) Try.func6
    (ChangeSpec.witness6 (enc := enc) (C := Try.checked) false ⟨#[], #[.slice none 0 0, .int .u32 0, .int .u32 0], []⟩ 8 (by kernel_rfl) (by kernel_rfl) (by kernel_rfl) (by kernel_rfl)) ?_
  intro W base args ds gs before hval0 hW _ _
  have hval : ∀ (j : Nat) t v, Try.f6.params[j]? = some t → args[j]? = some v → Value.okWide Try.prog W .any base t v := hval0
  have hW' := hW
  obtain ⟨p, q, hA0, hV, rfl, -, -⟩ := hW
  have hA : DataW.TrodAll enc Try.prog W 0 (fun _ => true) true Try.f6.params.toList args.toList ds p := hA0
  rw [Try.params6] at hA hval
  obtain ⟨v0, vs0, d0, ds0, p0, q0, hargs, rfl, rfl, h0, r0⟩ := trodAll_cons hA
  obtain ⟨v1, vs1, d1, ds1, p1, q1, rfl, rfl, rfl, h1, r1⟩ := trodAll_cons r0
  obtain ⟨v2, vs2, d2, ds2, p2, q2, rfl, rfl, rfl, h2, r2⟩ := trodAll_cons r1
  obtain ⟨rfl, rfl, rfl⟩ := trodAll_nil r2
  obtain rfl : args = #[v0, v1, v2] := by cases args; simp_all
  obtain ⟨rfl, rfl⟩ := trodVars_none hV
  obtain ⟨a0, w0⟩ := ints_arg Try.underlying36 Try.underlying53 (by kernel_rfl) (hval 0 36 v0 rfl rfl) h0
  obtain ⟨a1, rfl, rfl, rfl, w1⟩ := open_int Try.underlying37 (hval 1 37 v1 rfl rfl) h1
  obtain ⟨a2, rfl, rfl, rfl, w2⟩ := open_int Try.underlying37 (hval 2 37 v2 rfl rfl) h2
  clear hA0 hval0
  refine (walk v0 a0 a1 a2 W w0 w1 w2).mono fun e W' ⟨he, hb⟩ => ?_
  subst he
  exact ⟨_, rfl, post_law laidOut (by kernel_rfl) rfl (by kernel_rfl) Try.underlying4 hW' rfl hb⟩

/-- **SpreadDone**: the given statement. -/
theorem proved : Rows.SpreadDoneSaid :=
  OpenClaim.holds_of_wide 6 Try.f6 rfl rfl rfl rfl rfl rfl rfl ⟨rfl, rfl, rfl, rfl, rfl⟩ rfl rfl rfl rfl rfl (by kernel_rfl) Try.func6 (by kernel_rfl)
    (of_decide_eq_true (by kernel_rfl)) (by unfold Func.isWrapper; first | (rw [if_pos (by decide +kernel)]; kernel_rfl) | (rw [if_neg (by decide +kernel)]; exact ⟨rfl, rfl⟩))
    (fun os started H enc _ => lifted os started H enc)
end Go.Proofs.Ytnjbcblhciblcaa.spreadDone
