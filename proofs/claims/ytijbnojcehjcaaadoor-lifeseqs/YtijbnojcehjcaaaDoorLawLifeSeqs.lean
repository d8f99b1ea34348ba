/-
  LifeSeqs returns true at every input, and turns nothing that was there: no two words of one run that are Waking are the same. The table of places is tied to the program's text.
-/
import Derived.Test.YtijbnojcehjcaaaDoorLfW
import Derived.Test.YtijbnojcehjcaaaDoorPkL
import Derived.Test.YtijbnojcehjcaaaDoorPost
namespace Go.Proofs.YtijbnojcehjcaaaDoor.lifeSeqs
open Go.ChangeShapes Go.WideShapes Go.ChangeAt Go.RowKit Pk Lf

set_option maxRecDepth 100000 in
set_option maxHeartbeats 8000000 in
theorem walk (cpu : Int) (vl : Value) (zs : List Int) (W : World) (hc : (Lit.int .u8 cpu).wf = true) (hl : Ints .u16 W vl zs) (hT : Tab W) :
    Calls Tryd.prog 7 #[.int .u8 cpu, vl] W fun e w' => e = .returned (.bool true) ∧ Below W.heap.size W w' := by
  have HT := Lib.hid hT
  have HL := Lib.hid hl
  have HXW := Lib.hid (stepsL_wf zs)
  have HXL := Lib.hid (stepsL_len zs)
  have hcb := bounds_u8 hc
  have c0 : 0 ≤ cpu := by omega
  have c1 : cpu ≤ 255 := by omega
  obtain ⟨c, hcc⟩ : ∃ c, cpu % 64 = c := ⟨_, rfl⟩
  have t1 : cpu.tmod 64 = c := by rw [Int.tmod_eq_emod_of_nonneg c0]; exact hcc
  have cb0 : 0 ≤ c := by omega
  have cb1 : c ≤ 63 := by omega
  have HCB := Lib.hid (show 0 ≤ c ∧ c ≤ 63 from ⟨cb0, cb1⟩)
  have HU0 : Hid (U 0) := Lib.hid (by unfold U; omega)
  clear hT hc hcb
  obtain ⟨aa, la, ca, rfl⟩ : ∃ a l c, vl = .slice a l c := by obtain ⟨a, c, rfl, -⟩ := hl; exact ⟨_, _, _, rfl⟩
  clear hl
  go_enter Tryd.func7, Tryd.ntmps7
  go_wp2_with fail
  refine (awake_any _ HT.out).mono ?_
  rintro e' w_h1 ⟨rfl, h1⟩
  have H1 := Lib.hid h1
  clear h1
  go_wp2_with fail
  refine (steps_any zs _ _ (HL.out.below (bOn H1.out (by go_grown)))).mono ?_
  rintro e' w2 ⟨⟨vx, rfl, hx⟩, h2⟩
  have HPX := Lib.hid (hx.prs HXW.out)
  have HO2 := Lib.hid ((ownP_lit w_h1 w_h1.heap.size 40 (0, c) (Nat.le_refl _)).below h2)
  have HB2 : Hid (Below w_h1.heap.size w_h1 w2) := Lib.hid (bOn (by go_grown) h2)
  clear h2 hx
  generalize stepsL zs = X at *
  obtain ⟨ax, cx, hvx⟩ : ∃ a c, vx = .slice a X.length c := by obtain ⟨a, c, rfl, -⟩ := HPX.out; exact ⟨_, _, rfl⟩
  subst hvx
  go_wp2_with (first
    | (at_builtin; (refine wpList_append_prs (bytes := 16) rfl (.tmp 16) (.tmp 18) 30 rfl w_h1.heap.size 40 Tryd.underlying30 info_pair (by decide) [(0, c)] X HO2.out HPX.out (by have := HXL.out; simp; omega) HB2.out.size ?_); intro v3 w3 hown3 hbel3; have HO3 := Lib.hid hown3; have HB3 := Lib.hid hbel3; clear hown3 hbel3)
    | fail)
  have HW3 : Hid (∀ x ∈ [(0, c)] ++ X, (Lit.int .i64 x.1).wf = true ∧ (Lit.int .i64 x.2).wf = true) := Lib.hid (fun x hx => by
    rcases List.mem_append.1 hx with hx | hx
    · simp only [List.mem_singleton] at hx; subst hx
      exact ⟨i64_wf (by simp only; omega), i64_wf (by have := HCB.out; simp only; omega)⟩
    · exact HPX.out.wf x hx)
  have HP3 := Lib.hid (HO3.out.prs HW3.out)
  have H3 : Hid (Below W.heap.size W w3) := Lib.hid (bOn H1.out (HB2.out.trans HB3.out))
  have HL3 : Hid (([(0, c)] ++ X).length ≤ 61) := Lib.hid (by have := HXL.out; simp; omega)
  have HAP := Lib.hid (seqs_apart ([(0, c)] ++ X) (by have := HL3.out; omega))
  have HMO : Hid (1 < (runSt 0 ([(0, c)] ++ X)).2.length) := Lib.hid (seqs_more c HCB.out X)
  have HLE : Hid ((runSt 0 ([(0, c)] ++ X)).2.length ≤ 62) := Lib.hid (by
    have := run_len 0 ([(0, c)] ++ X) _ (Nat.le_refl _)
    rw [List.take_length] at this
    have := HL3.out
    omega)
  have HRU : Hid (∀ x ∈ (runSt 0 ([(0, c)] ++ X)).2, U x) := Lib.hid (by
    have := (run_U HU0.out ([(0, c)] ++ X) _ (Nat.le_refl _)).2
    rwa [List.take_length] at this)
  clear HB2 HB3 HO2 HO3 HPX
  rcases HP3.out.parts with ⟨h, -⟩ | ⟨hp, hm, bl, off, cap, hv3, hbl, hcell⟩
  · exact absurd h (by simp)
  subst hv3
  have HP := Lib.hid hp
  have HBL := Lib.hid hbl
  have HCE := Lib.hid hcell
  clear hp hm hbl hcell HP3
  go_wp2_with fail
  refine (run_any 0 HU0.out ([(0, c)] ++ X) bl off cap _ (HT.out.below H3.out) HP.out (by have := HL3.out; omega) HBL.out HW3.out HCE.out).mono ?_
  rintro e' w4 ⟨⟨u, rfl, hu⟩, h4⟩
  have HI := Lib.hid (hu.ints (fun x hx => u64_wf (HRU.out x hx)))
  have H4 := Lib.hid (bOn H3.out h4)
  clear h4 hu HW3 HP HBL HCE HL3
  generalize (runSt 0 ([(0, c)] ++ X)).2 = ws at *
  rcases HI.out.parts with ⟨h, -⟩ | ⟨hp, hm, b2, o2, cap2, hu, hb2, hc2⟩
  · have := HMO.out; rw [h] at this; exact absurd this (by decide)
  subst hu
  obtain ⟨n, hn⟩ : ∃ n, ws.length = n := ⟨_, rfl⟩
  have HN := Lib.hid hn
  have hn1 : 1 < n := by rw [← hn]; exact HMO.out
  have hn6 : n ≤ 62 := by rw [← hn]; exact HLE.out
  rw [hn] at hc2 ⊢
  have HC2 := Lib.hid hc2
  have HT4 := Lib.hid (HT.out.below H4.out)
  clear hn hc2 hp hm HMO HLE HI
  go_wp2
  go_loopw [7] (fun i wr => ∃ j : Nat, j ≤ n ∧ i = .int .i64 j ∧ Below w4.heap.size w4 wr) (fun i _ => n - (intOf i).toNat)
  case atStart => exact ⟨0, by omega, rfl, Below.refl _ _⟩
  case round =>
    obtain ⟨j, hj, rfl, hnx⟩ := hrel
    have HX := Lib.hid hnx
    by_cases hlt : j < n
    · obtain ⟨wo, hwo⟩ : ∃ wo, wo = wr := ⟨_, rfl⟩
      subst hwo
      clear hnx
      go_wp2
      go_loopw [8] (fun i wr' => ∃ m : Nat, m ≤ j ∧ i = .int .i64 m ∧ Below w4.heap.size w4 wr') (fun i _ => j - (intOf i).toNat)
      case atStart => exact ⟨0, by omega, rfl, HX.out⟩
      case round =>
        obtain ⟨m, hm, rfl, hnx⟩ := hrel
        have HX' := Lib.hid hnx
        by_cases hml : m < j
        · have hcj : wr.cell? ⟨b2, o2 + j, none⟩ = some (.int .u64 (ws.getD j 0)) := (hnx.cell (p := ⟨b2, o2 + j, none⟩) hb2).trans (HC2.out j hlt)
          have hcm : wr.cell? ⟨b2, o2 + m, none⟩ = some (.int .u64 (ws.getD m 0)) := (hnx.cell (p := ⟨b2, o2 + m, none⟩) hb2).trans (HC2.out m (by omega))
          have HTr := Lib.hid (HT4.out.below hnx)
          have HA := Lib.hid (HAP.out j m hml (by have := HN.out; omega))
          have HUj : Hid (U (ws.getD j 0)) := Lib.hid (HRU.out _ (by
            have hj' : j < ws.length := by have := HN.out; omega
            have e : ws.getD j 0 = ws[j] := by simp [List.getD, hj']
            rw [e]; exact List.getElem_mem hj'))
          clear hnx
          generalize ws.getD j 0 = x at *
          generalize ws.getD m 0 = y at *
          by_cases hxy : x = y
          · subst hxy
            obtain ⟨kx, hkx⟩ : ∃ k, K x = k := ⟨_, rfl⟩
            have HK : Hid (∀ W, Tab W → Calls Tryd.prog 24 #[.int .u64 x] W fun e w' => e = .returned (.int .i64 kx) ∧ ∃ q, w' = W.drewN q) := Lib.hid (by rw [← hkx]; exact kind_q x HUj.out)
            have e2 : (kx == 2) = false := by
              rw [← hkx]
              simp only [beq_eq_false_iff_ne, ne_eq]
              exact fun h => HA.out h rfl
            have ex : (x == x) = true := by simp
            clear hkx
            go_wp2
            go_quiet (first | (go_at_call 24; refine Calls.quiet_of (HK.out _ ?_); exact HTr.out.drew _))
            go_wp2
            exact ⟨⟨m + 1, by omega, by go_num, below_drewN HX'.out nq⟩, by simp [intOf]; omega⟩
          · have e1 : (x == y) = false := by simpa using hxy
            have e2 : (y == x) = false := by simpa using fun h => hxy h.symm
            clear hxy
            go_wp2
            go_quiet (fail)
            go_wp2
            exact ⟨⟨m + 1, by omega, by go_num, below_drewN HX'.out nq⟩, by simp [intOf]; omega⟩
        · obtain rfl : m = j := by omega
          clear hnx
          go_wp2
          exact ⟨⟨m + 1, by omega, by go_num, HX'.out⟩, by simp [intOf]; omega⟩
    · obtain rfl : j = n := by omega
      clear hnx
      go_wp2
      go_ret
      refine ⟨?_, bOn H4.out HX.out⟩
      have h1 : decide ((1 : Int) < (j : Int)) = true := decide_eq_true (by omega)
      rw [h1]
      rfl

theorem met (os : Os) : laidMet Tryd.prog Rows.lifeSeqsRow.laid ((laidWorld os).forCall (fun _ _ => 0) ⟨#[], #[.int .u8 0, .slice none 0 0], []⟩).memory := laidMet_of_run' 8 (by kernel_rfl) (by kernel_rfl)
theorem reads (os : Os) {H : Type} (enc : TypeId × Value → H) : ∃ ps, DataW.whole enc Tryd.prog ((laidWorld os).forCall (fun _ _ => 0) ⟨#[], #[.int .u8 0, .slice none 0 0], []⟩).memory Tryd.f7.params.toList Rows.lifeSeqsSpec.vars false #[Value.int .u8 0, Value.slice none 0 0].toList 8 = some ([.lit (.int .u8 0), .nil], [], ps) := ⟨[], by kernel_rfl⟩
set_option maxRecDepth 100000 in
theorem lifted (os : Os) (started : os.Started) (H : Type) (enc : TypeId × Value → H) (F : Stop.Interp) :
    ReturnsInHanded {} Tryd.checked os 7 .any ((OpenSpec.ofChange Rows.lifeSeqsSpec).preRow enc Tryd.prog Tryd.f7 Rows.lifeSeqsRow.domain false Rows.lifeSeqsRow.laid) (((OpenSpec.ofChange Rows.lifeSeqsSpec).at F).post enc Tryd.prog Tryd.f7 false true false false) := by
  obtain ⟨ps, hx⟩ := reads os enc
  refine returnsInHanded_of_row (C := Tryd.checked) (s := OpenSpec.ofChange Rows.lifeSeqsSpec) own started (by kernel_rfl) Tryd.func7 (witness_row_at (enc := enc) (C := Tryd.checked) false (laidWorld os) #[.int .u8 0, .slice none 0 0] rfl (by kernel_rfl) (by kernel_rfl) (by kernel_rfl) (OpenSpec.preRow_of_cond 8 hx (by kernel_rfl) (fun k hk => by cases hk) (by kernel_rfl) (met os))) ?_
  intro W base args ds gs before hval0 hW _ _ _ hL _ _
  have hval : ∀ (j : Nat) t v, Tryd.f7.params[j]? = some t → args[j]? = some v → Value.okWide Tryd.prog W .any base t v := hval0
  have hW' := hW
  obtain ⟨p, q, hA0, hV, rfl, -, -⟩ := hW
  have hA : DataW.TrodAll enc Tryd.prog W 0 (fun _ => true) true Tryd.f7.params.toList args.toList ds p := hA0
  rw [Tryd.params7] at hA hval
  obtain ⟨v0, vs0, d0, ds0, p0, q0, hargs, rfl, rfl, h0, r0⟩ := trodAll_cons hA
  obtain ⟨v1, vs1, d1, ds1, p1, q1, rfl, rfl, rfl, h1, r1⟩ := trodAll_cons r0
  obtain ⟨rfl, rfl, rfl⟩ := trodAll_nil r1
  obtain rfl : args = #[v0, v1] := by cases args; simp_all
  obtain ⟨rfl, rfl⟩ := trodVars_none hV
  obtain ⟨a0, rfl, rfl, rfl, w0⟩ := open_int Tryd.underlying5 (hval 0 5 v0 rfl rfl) h0
  obtain ⟨a1, w1⟩ := ints_arg Tryd.underlying38 Tryd.underlying54 (by kernel_rfl) (hval 1 38 v1 rfl rfl) h1
  clear hA0 hval0
  refine (walk a0 v1 a1 W w0 w1 (tab_laid hL)).mono fun e W' ⟨he, hb⟩ => ?_
  subst he
  exact ⟨_, rfl, post_law laidOut (by kernel_rfl) rfl (by kernel_rfl) Tryd.underlying4 hW' rfl hb⟩

theorem row : Rows.LifeSeqsSaid :=
  OpenClaim.holds_of_cond 7 Tryd.f7 rfl rfl rfl rfl rfl rfl rfl ⟨rfl, rfl, rfl, rfl, rfl⟩ rfl rfl rfl rfl rfl (by kernel_rfl) Tryd.func7 (by kernel_rfl)
    (of_decide_eq_true (by kernel_rfl)) (by unfold Func.isWrapper; first | (rw [if_pos (by decide +kernel)]; kernel_rfl) | (rw [if_neg (by decide +kernel)]; exact ⟨rfl, rfl⟩))
    (fun os started H enc _ F => by rw [OpenClaim.pre_eq_preRow]; exact lifted os started H enc F)
theorem simple (f : FuncId) (fn : Func) (hf : Tryd.pinned.checked.prog.funcNamed Rows.lifeSeqsRow.func = some f) (hfn : Tryd.pinned.checked.prog.funcs[f]? = some fn) :
    false = Tryd.pinned.checked.prog.looks [] ∧ ∀ (j : Nat) t, fn.params[j]? = some t → Tryd.pinned.checked.prog.wantsStandIn t = false := by
  have e1 : Tryd.prog.funcNamed Rows.lifeSeqsRow.func = some 7 := by kernel_rfl
  cases e1.symm.trans hf
  cases Tryd.func7.symm.trans hfn
  exact ⟨by kernel_rfl, no_stand (P := Tryd.prog) (by kernel_rfl)⟩
/-- **LifeSeqs**: the given statement, a tied card. -/
theorem proved : Rows.LifeSeqsCardSaid :=
  Claim7.holds_tied_plain_at .later [] _ _ _ _ row (fun _ h => by cases h) (by kernel_rfl) (fun _ h => by cases h) lifeSeqs_row_tie rfl ⟨rfl, rfl⟩ (by kernel_rfl) rfl simple (by kernel_rfl)

end Go.Proofs.YtijbnojcehjcaaaDoor.lifeSeqs
