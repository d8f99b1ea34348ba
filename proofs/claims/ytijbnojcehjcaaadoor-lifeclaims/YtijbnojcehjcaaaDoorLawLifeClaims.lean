/-
  LifeClaims returns true at every input, and turns nothing that was there: what sleeps, or is free, comes to be awake by a claim, or by a Bit, alone. The table of places is tied to the program's text.
-/
import Derived.Test.YtijbnojcehjcaaaDoorLfV
import Derived.Test.YtijbnojcehjcaaaDoorPkL
import Derived.Test.YtijbnojcehjcaaaDoorPost
namespace Go.Proofs.YtijbnojcehjcaaaDoor.lifeClaims
open Go.ChangeShapes Go.WideShapes Go.ChangeAt Go.RowKit Pk Lf

theorem calm_start (c : Int) (hc : 0 ≤ c ∧ c ≤ 63) : calm (1 + 8 * c) := by
  unfold calm isW K
  omega

set_option maxRecDepth 100000 in
set_option maxHeartbeats 4000000 in
theorem walk (cpu : Int) (vl : Value) (zs : List Int) (W : World) (hc : (Lit.int .u8 cpu).wf = true) (hl : Ints .u16 W vl zs) (hT : Tab W) :
    Calls Tryd.prog 6 #[.int .u8 cpu, vl] W fun e w' => e = .returned (.bool true) ∧ Below W.heap.size W w' := by
  have HT := Lib.hid hT
  have HL := Lib.hid hl
  have HXW := Lib.hid (stepsL_wf zs)
  have HXL := Lib.hid (stepsL_len zs)
  have hcb := bounds_u8 hc
  have c0 : 0 ≤ cpu := by omega
  have c1 : cpu ≤ 255 := by omega
  obtain ⟨c, hcc⟩ : ∃ c, cpu % 64 = c := ⟨_, rfl⟩
  have t1 : cpu.tmod 64 = c := by rw [Int.tmod_eq_emod_of_nonneg c0]; exact hcc
  have cb0 : 0 ≤ c := by omega
  have cb1 : c ≤ 63 := by omega
  have HC0 := Lib.hid (calm_start c ⟨cb0, cb1⟩)
  clear hT hc hcb
  obtain ⟨aa, la, ca, rfl⟩ : ∃ a l c, vl = .slice a l c := by obtain ⟨a, c, rfl, -⟩ := hl; exact ⟨_, _, _, rfl⟩
  clear hl
  go_enter Tryd.func6, Tryd.ntmps6
  go_wp2_with fail
  refine (awake_any _ HT.out).mono ?_
  rintro e' w_h1 ⟨rfl, h1⟩
  have H1 := Lib.hid h1
  clear h1
  go_wp2_with fail
  refine (steps_any zs _ _ (HL.out.below H1.out)).mono ?_
  rintro e' w2 ⟨⟨vx, rfl, hx⟩, h2⟩
  have HPX := Lib.hid (hx.prs HXW.out)
  have H2 := Lib.hid (bOn H1.out h2)
  have HT2 := Lib.hid (HT.out.below H2.out)
  clear h2 hx
  generalize stepsL zs = X at *
  generalize hw0 : 1 + 8 * c = w0 at *
  clear hcc t1
  rcases HPX.out.parts with ⟨rfl, a, cap, rfl⟩ | ⟨hp, hm, bl, off, cap, rfl, hbl, hcell⟩
  · have HAW := Lib.hid (calm_not HC0.out)
    have HU0 := Lib.hid (isW_U HC0.out.1)
    go_wp2
    go_loop [6, 8] (fun s i => s = .int .u64 w0 ∧ i = .int .i64 0) (fun _ _ => 0)
    case atStart => exact ⟨rfl, rfl⟩
    case round =>
      obtain ⟨rfl, rfl⟩ := hrel
      go_wp2_with fail
      refine (lawake_at HAW.out HU0.out _ HT2.out).mono ?_
      rintro e' w3 ⟨rfl, h3⟩
      have H3 := Lib.hid (bOn H2.out h3)
      clear h3
      go_wp2
      go_ret
      exact ⟨rfl, H3.out⟩
  · obtain ⟨n, hn⟩ : ∃ n, X.length = n := ⟨_, rfl⟩
    have HN := Lib.hid hn
    have hn6 : n ≤ 60 := by rw [← hn]; exact HXL.out
    rw [hn] at hp hm hcell ⊢
    have HCE := Lib.hid hcell
    clear hn hcell hm
    go_wp2
    go_loopw [6, 8] (fun s i wr => ∃ (k : Nat) (v : Int), k ≤ n ∧ s = .int .u64 v ∧ calm v ∧ i = .int .i64 k ∧ Below w2.heap.size w2 wr) (fun _ i _ => n - (intOf i).toNat)
    case atStart => exact ⟨0, w0, by omega, rfl, HC0.out, rfl, Below.refl _ _⟩
    case round =>
      obtain ⟨k, v, hk, rfl, hv, rfl, hnx⟩ := hrel
      have HV := Lib.hid hv
      have HX := Lib.hid hnx
      have HUv := Lib.hid (isW_U hv.1)
      have HTr := Lib.hid (HT2.out.below hnx)
      by_cases hlt : k < n
      · have hck : wr.cell? ⟨bl, off + k * 2, none⟩ = some (.int .i64 (X.getD k (0, 0)).1) := (hnx.cell (p := ⟨bl, off + k * 2, none⟩) hbl).trans (HCE.out k hlt).1
        have hck' : wr.cell? ⟨bl, off + k * 2 + 1, none⟩ = some (.int .i64 (X.getD k (0, 0)).2) := (hnx.cell (p := ⟨bl, off + k * 2 + 1, none⟩) hbl).trans (HCE.out k hlt).2
        have hblr : bl < wr.heap.size := Nat.lt_of_lt_of_le hbl hnx.size
        have HWF := Lib.hid (getD_wf HXW.out (k := k) (by have := HN.out; omega))
        clear hv hnx
        obtain ⟨⟨ev, cp⟩, hx⟩ : ∃ x, X.getD k (0, 0) = x := ⟨_, rfl⟩
        rw [hx] at hck hck' HWF
        clear hx
        dsimp only at hck hck' HWF
        obtain ⟨v', hv'⟩ : ∃ x, nxW v ev cp = x := ⟨_, rfl⟩
        have HV' := Lib.hid hv'
        obtain ⟨er, her⟩ : ∃ x, nxE v ev cp = x := ⟨_, rfl⟩
        have HE0 := Lib.hid her
        by_cases he : er = 0
        · subst he
          by_cases h2 : ev = 2
          · subst h2
            clear hv' her
            go_wp2
            go_region_with (go_at_call 10; refine (next_at HV'.out HE0.out HUv.out HWF.out _ ?_).mono ?_; exact tab_drew HTr.out; rintro e' w3 ⟨rfl, h3⟩)
            all_goals
              have hc3 := ((drew_below' h3).cell (p := ⟨bl, off + k * 2, none⟩) hblr).trans hck
              have H3 := Lib.hid (bOn HX.out (drew_below' h3))
              clear h3 hck hck'
              go_wp2
              exact ⟨⟨k + 1, v, by omega, rfl, HV.out, by go_num, H3.out⟩, by simp [intOf]; omega⟩
          · have e2 : (ev == 2) = false := by simpa using h2
            have HC1 := Lib.hid (hv' ▸ calm_on HV.out her h2 : calm v')
            have HA1 := Lib.hid (calm_not HC1.out)
            have HU1 := Lib.hid (isW_U HC1.out.1)
            clear hv' her h2
            go_wp2
            go_region_with (go_at_call 10; refine (next_at HV'.out HE0.out HUv.out HWF.out _ ?_).mono ?_; exact tab_drew HTr.out; rintro e' w3 ⟨rfl, h3⟩)
            all_goals
              have hc3 := ((drew_below' h3).cell (p := ⟨bl, off + k * 2, none⟩) hblr).trans hck
              have H3 := Lib.hid (bOn HX.out (drew_below' h3))
              clear h3 hck hck'
              go_wp2_with fail
              refine (lawake_at HA1.out HU1.out _ (HT2.out.below H3.out)).mono ?_
              rintro e' w4 ⟨rfl, h4⟩
              have H4 := Lib.hid (bOn H3.out h4)
              clear h4 hc3
              go_wp2
              exact ⟨⟨k + 1, v', by omega, rfl, HC1.out, by go_num, H4.out⟩, by simp [intOf]; omega⟩
        · have he' : (er != 0) = true := by simpa using he
          clear hv' her he
          go_wp2
          go_region_with (go_at_call 10; refine (next_at HV'.out HE0.out HUv.out HWF.out _ ?_).mono ?_; exact tab_drew HTr.out; rintro e' w3 ⟨rfl, h3⟩)
          all_goals
            have hc3 := ((drew_below' h3).cell (p := ⟨bl, off + k * 2, none⟩) hblr).trans hck
            have H3 := Lib.hid (bOn HX.out (drew_below' h3))
            clear h3 hck hck'
            go_wp2
            exact ⟨⟨k + 1, v, by omega, rfl, HV.out, by go_num, H3.out⟩, by simp [intOf]; omega⟩
      · obtain rfl : k = n := by omega
        have HAW := Lib.hid (calm_not HV.out)
        clear hv hnx
        go_wp2_with fail
        refine (lawake_at HAW.out HUv.out _ HTr.out).mono ?_
        rintro e' w3 ⟨rfl, h3⟩
        have H3 := Lib.hid (bOn H2.out (bOn HX.out h3))
        clear h3
        go_wp2
        go_ret
        exact ⟨rfl, H3.out⟩

theorem met (os : Os) : laidMet Tryd.prog Rows.lifeClaimsRow.laid ((laidWorld os).forCall (fun _ _ => 0) ⟨#[], #[.int .u8 0, .slice none 0 0], []⟩).memory := laidMet_of_run' 8 (by kernel_rfl) (by kernel_rfl)
theorem reads (os : Os) {H : Type} (enc : TypeId × Value → H) : ∃ ps, DataW.whole enc Tryd.prog ((laidWorld os).forCall (fun _ _ => 0) ⟨#[], #[.int .u8 0, .slice none 0 0], []⟩).memory Tryd.f6.params.toList Rows.lifeClaimsSpec.vars false #[Value.int .u8 0, Value.slice none 0 0].toList 8 = some ([.lit (.int .u8 0), .nil], [], ps) := ⟨[], by kernel_rfl⟩
set_option maxRecDepth 100000 in
theorem lifted (os : Os) (started : os.Started) (H : Type) (enc : TypeId × Value → H) (F : Stop.Interp) :
    ReturnsInHanded {} Tryd.checked os 6 .any ((OpenSpec.ofChange Rows.lifeClaimsSpec).preRow enc Tryd.prog Tryd.f6 Rows.lifeClaimsRow.domain false Rows.lifeClaimsRow.laid) (((OpenSpec.ofChange Rows.lifeClaimsSpec).at F).post enc Tryd.prog Tryd.f6 false true false false) := by
  obtain ⟨ps, hx⟩ := reads os enc
  refine returnsInHanded_of_row (C := Tryd.checked) (s := OpenSpec.ofChange Rows.lifeClaimsSpec) own started (by kernel_rfl) Tryd.func6 (witness_row_at (enc := enc) (C := Tryd.checked) false (laidWorld os) #[.int .u8 0, .slice none 0 0] rfl (by kernel_rfl) (by kernel_rfl) (by kernel_rfl) (OpenSpec.preRow_of_cond 8 hx (by kernel_rfl) (fun k hk => by cases hk) (by kernel_rfl) (met os))) ?_
  intro W base args ds gs before hval0 hW _ _ _ hL _ _
  have hval : ∀ (j : Nat) t v, Tryd.f6.params[j]? = some t → args[j]? = some v → Value.okWide Tryd.prog W .any base t v := hval0
  have hW' := hW
  obtain ⟨p, q, hA0, hV, rfl, -, -⟩ := hW
  have hA : DataW.TrodAll enc Tryd.prog W 0 (fun _ => true) true Tryd.f6.params.toList args.toList ds p := hA0
  rw [Tryd.params6] at hA hval
  obtain ⟨v0, vs0, d0, ds0, p0, q0, hargs, rfl, rfl, h0, r0⟩ := trodAll_cons hA
  obtain ⟨v1, vs1, d1, ds1, p1, q1, rfl, rfl, rfl, h1, r1⟩ := trodAll_cons r0
  obtain ⟨rfl, rfl, rfl⟩ := trodAll_nil r1
  obtain rfl : args = #[v0, v1] := by cases args; simp_all
  obtain ⟨rfl, rfl⟩ := trodVars_none hV
  obtain ⟨a0, rfl, rfl, rfl, w0⟩ := open_int Tryd.underlying5 (hval 0 5 v0 rfl rfl) h0
  obtain ⟨a1, w1⟩ := ints_arg Tryd.underlying38 Tryd.underlying54 (by kernel_rfl) (hval 1 38 v1 rfl rfl) h1
  clear hA0 hval0
  refine (walk a0 v1 a1 W w0 w1 (tab_laid hL)).mono fun e W' ⟨he, hb⟩ => ?_
  subst he
  exact ⟨_, rfl, post_law laidOut (by kernel_rfl) rfl (by kernel_rfl) Tryd.underlying4 hW' rfl hb⟩

theorem row : Rows.LifeClaimsSaid :=
  OpenClaim.holds_of_cond 6 Tryd.f6 rfl rfl rfl rfl rfl rfl rfl ⟨rfl, rfl, rfl, rfl, rfl⟩ rfl rfl rfl rfl rfl (by kernel_rfl) Tryd.func6 (by kernel_rfl)
    (of_decide_eq_true (by kernel_rfl)) (by unfold Func.isWrapper; first | (rw [if_pos (by decide +kernel)]; kernel_rfl) | (rw [if_neg (by decide +kernel)]; exact ⟨rfl, rfl⟩))
    (fun os started H enc _ F => by rw [OpenClaim.pre_eq_preRow]; exact lifted os started H enc F)
theorem simple (f : FuncId) (fn : Func) (hf : Tryd.pinned.checked.prog.funcNamed Rows.lifeClaimsRow.func = some f) (hfn : Tryd.pinned.checked.prog.funcs[f]? = some fn) :
    false = Tryd.pinned.checked.prog.looks [] ∧ ∀ (j : Nat) t, fn.params[j]? = some t → Tryd.pinned.checked.prog.wantsStandIn t = false := by
  have e1 : Tryd.prog.funcNamed Rows.lifeClaimsRow.func = some 6 := by kernel_rfl
  cases e1.symm.trans hf
  cases Tryd.func6.symm.trans hfn
  exact ⟨by kernel_rfl, no_stand (P := Tryd.prog) (by kernel_rfl)⟩
/-- **LifeClaims**: the given statement, a tied card. -/
theorem proved : Rows.LifeClaimsCardSaid :=
  Claim7.holds_tied_plain_at .later [] _ _ _ _ row (fun _ h => by cases h) (by kernel_rfl) (fun _ h => by cases h) lifeClaims_row_tie rfl ⟨rfl, rfl⟩ (by kernel_rfl) rfl simple (by kernel_rfl)

end Go.Proofs.YtijbnojcehjcaaaDoor.lifeClaims
