/-
  SpreadEnds returns true at every input, and turns nothing that was there: the busiest one has no less than any other one, the idlest one no more, the first of those that have as much.
-/
import Derived.Test.YtnjbcblhciblcaaSpW
import Derived.Test.YtnjbcblhciblcaaSpE
import Derived.Test.YtnjbcblhciblcaaPost
namespace Go.Proofs.Ytnjbcblhciblcaa.spreadEnds
open Go.ChangeShapes Go.WideShapes Go.ChangeAt Go.RowKit Mk Sp

set_option maxRecDepth 100000 in
set_option maxHeartbeats 8000000 in
theorem walk (v : Value) (zs : List Int) (but : Int) (w : World) (hv : Ints .i64 w v zs) (_ : (Lit.int .i64 but).wf = true) :
    Calls Try.prog 8 #[v, .int .i64 but] w fun e w' => e = .returned (.bool true) ∧ Below w.heap.size w w' := by
  have HV := Lib.hid hv
  have hparts := hv.parts
  obtain ⟨a, cap, rfl, hm, -, -⟩ := hv
  have hml : zs.length ≤ 9223372036854775807 := by unfold maxLen at hm; omega
  clear hm
  obtain ⟨n, hn⟩ : ∃ n, zs.length = n := ⟨_, rfl⟩
  have HN := Lib.hid hn
  rw [hn] at hml HV hparts ⊢
  clear hn
  by_cases hl : 100 < n
  · clear hparts
    go_enter Try.func8, Try.ntmps8
    go_wp2_with fail
    refine (awake_any _).mono ?_
    rintro e' w_b1 ⟨rfl, b1⟩
    go_wp2
    go_ret
    exact ⟨rfl, b1⟩
  · have hl2 : n ≤ 100 := by omega
    obtain ⟨ob, hob⟩ : ∃ o, fmR gtB but zs = o := ⟨_, rfl⟩
    obtain ⟨oi, hoi⟩ : ∃ o, fmR ltB but zs = o := ⟨_, rfl⟩
    have HB := Lib.hid hob
    have HI := Lib.hid hoi
    have hob' : fm gtB but zs n = ob := by rw [← hob, ← HN.out]; rfl
    have hoi' : fm ltB but zs n = oi := by rw [← hoi, ← HN.out]; rfl
    have s1 := fm_some (lt := gtB) (but := but) (zs := zs) n
    have s2 := fm_some (lt := ltB) (but := but) (zs := zs) n
    have so := others_pos but n
    rw [← so, hob'] at s1
    rw [← so, hoi'] at s2
    have HGS := Lib.hid (gt_spec but zs n)
    have HLS := Lib.hid (lt_spec but zs n)
    rw [hob'] at HGS
    rw [hoi'] at HLS
    have HFB := Lib.hid hob'
    have HFI := Lib.hid hoi'
    have hoth : ∃ o, others but n = o ∧ -1 ≤ o ∧ o ≤ 100 := ⟨_, rfl, by unfold others; split <;> omega, by unfold others; split <;> omega⟩
    obtain ⟨ot, hot, ho1, ho2⟩ := hoth
    rw [hot] at s1 s2
    have HOT := Lib.hid hot
    clear hob hoi hob' hoi' so hot
    go_enter Try.func8, Try.ntmps8
    go_wp2_with fail
    refine (awake_any _).mono ?_
    rintro e' w_b0 ⟨rfl, b0⟩
    go_wp2_with fail
    refine (bus_any _ zs but _ (HV.out.below b0)).mono ?_
    rintro e' w_b1 ⟨rfl, b1⟩
    rw [HB.out]
    have B1 := Lib.hid (bOn b0 b1)
    clear b0 b1
    go_wp2_with fail
    refine (idl_any _ zs but _ (HV.out.below B1.out)).mono ?_
    rintro e' w_b2 ⟨rfl, b2⟩
    rw [HI.out]
    have B2 := Lib.hid (bOn B1.out b2)
    clear b2
    obtain ⟨W2, hW2⟩ : ∃ W2, w_b2 = W2 := ⟨_, rfl⟩
    rw [hW2] at B2 ⊢
    clear hW2
    clear w_b2 B1
    cases ob with
    | none =>
      cases oi with
      | some q => exact absurd (s1.2 (s2.1 rfl)) (by simp)
      | none =>
        have hot0 : ot ≤ 0 := by
          by_cases h : 0 < ot
          · exact absurd (s1.2 h) (by simp)
          · omega
        clear hparts s1 s2
        have e1 : fmI none = 0 := rfl
        have e2 : (none : Option Nat).isSome = false := rfl
        rw [e1, e2]
        clear e1 e2
        by_cases hb0 : 0 ≤ but ∧ but < n
        · have h5 : (n : Int) - 1 = ot := by have := HOT.out; unfold others at this; rw [if_pos hb0] at this; exact this
          obtain ⟨hb1, hb2⟩ := hb0
          have hn1 : n = 1 := by omega
          subst hn1
          go_wp2
          go_loop [11] (fun i => i = .int .i64 0) (fun _ => 0)
          case atStart => rfl
          case round =>
            subst hrel
            go_wp2
            go_ret
            exact ⟨rfl, B2.out⟩
        · have h5 : (n : Int) = ot := by have := HOT.out; unfold others at this; rw [if_neg hb0] at this; exact this
          obtain rfl : n = 0 := by omega
          by_cases hb1 : 0 ≤ but
          · go_wp2
            go_loop [11] (fun i => i = .int .i64 0) (fun _ => 0)
            case atStart => rfl
            case round =>
              subst hrel
              go_wp2
              go_ret
              exact ⟨rfl, B2.out⟩
          · go_wp2
            go_loop [11] (fun i => i = .int .i64 0) (fun _ => 0)
            case atStart => rfl
            case round =>
              subst hrel
              go_wp2
              go_ret
              exact ⟨rfl, B2.out⟩
    | some pa =>
      cases oi with
      | none => exact absurd (s2.2 (s1.1 rfl)) (by simp)
      | some pb =>
        have hot0 : 0 < ot := s1.1 rfl
        have hpa := fm_lt HFB.out
        have hpb := fm_lt HFI.out
        have ga := HGS.out.2 pa rfl
        have gb := HLS.out.2 pb rfl
        have HGA := Lib.hid ga.2
        have HGB := Lib.hid gb.2
        have hna : (((pa : Nat) : Int) != but) = true := by simpa using ga.1
        have hnb : (((pb : Nat) : Int) != but) = true := by simpa using gb.1
        clear s1 s2 HGS HLS HFB HFI ga gb
        have e1 : fmI (some pa) = (pa : Int) := rfl
        have e2 : (some pa : Option Nat).isSome = true := rfl
        have e3 : fmI (some pb) = (pb : Int) := rfl
        have e4 : (some pb : Option Nat).isSome = true := rfl
        rw [e1, e2, e3, e4]
        clear e1 e2 e3 e4
        rcases hparts with ⟨h0, -⟩ | ⟨hp, -, b, off, cap', he, hbk, hc⟩
        · rw [h0] at HN; exact absurd (show n = 0 from HN.out.symm) (by omega)
        obtain ⟨rfl, rfl⟩ : a = some ⟨b, off, none⟩ ∧ cap = cap' := by cases he; exact ⟨rfl, rfl⟩
        clear he
        obtain ⟨zc, hzc⟩ : ∃ f : Nat → Int, f = fun i => zs.getD i 0 := ⟨_, rfl⟩
        have hc' : ∀ i, i < n → W2.cell? ⟨b, off + i, none⟩ = some (.int .i64 (zc i)) := fun i hi => by rw [B2.out.cell (p := ⟨b, off + i, none⟩) hbk, hzc]; exact hc i hi
        have HGA' : Hid (∀ i : Nat, i < n → ¬ (i : Int) = but → zc i ≤ zc pa ∧ (zc i = zc pa → pa ≤ i)) := by unfold Hid; rw [hzc]; exact HGA.out
        have HGB' : Hid (∀ i : Nat, i < n → ¬ (i : Int) = but → zc pb ≤ zc i ∧ (zc i = zc pb → pb ≤ i)) := by unfold Hid; rw [hzc]; exact HGB.out
        clear hc HGA HGB hzc
        have ca := hc' pa hpa
        have cb := hc' pb hpb
        obtain ⟨u, hu, hu2⟩ : ∃ u : Int, (if 0 ≤ but ∧ but < (n : Int) then (n : Int) - 1 else n) = u ∧ u = ot := ⟨_, rfl, HOT.out⟩
        by_cases hb0 : 0 ≤ but
        · by_cases hb1 : but < (n : Int)
          · rw [if_pos ⟨hb0, hb1⟩] at hu
            have hu3 : 0 < (n : Int) - 1 := by omega
            clear hu hu2 HOT
            go_wp2
            go_loopw [11] (fun i wr => ∃ k : Nat, k ≤ n ∧ i = .int .i64 k ∧ ∃ q, wr = W2.drewN q) (fun i _ => n - (intOf i).toNat)
            case atStart => exact ⟨0, by omega, rfl, 0, rfl⟩
            case round =>
              obtain ⟨k, hk, rfl, q, rfl⟩ := hrel
              by_cases hlt : k < n
              · have ck := hc' k hlt
                by_cases hbt : (k : Int) = but
                · have hne : (((k : Int)) != but) = false := by simp [hbt]
                  clear hc' HGA' HGB'
                  generalize zc k = z at *
                  go_wp2
                  go_quiet (fail)
                  go_wp2
                  exact ⟨⟨k + 1, by omega, by go_num, _, rfl⟩, by simp [intOf]; omega⟩
                · have hne : (((k : Int)) != but) = true := by simpa using hbt
                  obtain ⟨g1, g2⟩ := HGA'.out k hlt hbt
                  obtain ⟨g3, g4⟩ := HGB'.out k hlt hbt
                  clear hc' HGA' HGB'
                  generalize zc k = z at *
                  generalize zc pa = y at *
                  generalize zc pb = x at *
                  have f1 : ¬ y < z := by omega
                  have f3 : ¬ z < x := by omega
                  by_cases e1 : z = y
                  · have f2 : ¬ k < pa := by have := g2 e1; omega
                    by_cases e2 : z = x
                    · have f4 : ¬ k < pb := by have := g4 e2; omega
                      subst e1 e2
                      clear g1 g2 g3 g4 f1 f3
                      go_wp2
                      go_quiet (fail)
                      go_wp2
                      exact ⟨⟨k + 1, by omega, by go_num, _, rfl⟩, by simp [intOf]; omega⟩
                    · have f6 : (z == x) = false := by simpa using e2
                      subst e1
                      clear g1 g2 g3 g4 f1
                      go_wp2
                      go_quiet (fail)
                      go_wp2
                      exact ⟨⟨k + 1, by omega, by go_num, _, rfl⟩, by simp [intOf]; omega⟩
                  · have f5 : (z == y) = false := by simpa using e1
                    by_cases e2 : z = x
                    · have f4 : ¬ k < pb := by have := g4 e2; omega
                      subst e2
                      clear g1 g2 g3 g4 f3
                      go_wp2
                      go_quiet (fail)
                      go_wp2
                      exact ⟨⟨k + 1, by omega, by go_num, _, rfl⟩, by simp [intOf]; omega⟩
                    · have f6 : (z == x) = false := by simpa using e2
                      clear g1 g2 g3 g4
                      go_wp2
                      go_quiet (fail)
                      go_wp2
                      exact ⟨⟨k + 1, by omega, by go_num, _, rfl⟩, by simp [intOf]; omega⟩
              · obtain rfl : k = n := by omega
                clear hc' HGA' HGB'
                go_wp2
                go_ret
                exact ⟨rfl, below_drewN B2.out _⟩
          · rw [if_neg (fun h => hb1 h.2)] at hu
            have hu3 : 0 < (n : Int) := by omega
            clear hu hu2 HOT
            go_wp2
            go_loopw [11] (fun i wr => ∃ k : Nat, k ≤ n ∧ i = .int .i64 k ∧ ∃ q, wr = W2.drewN q) (fun i _ => n - (intOf i).toNat)
            case atStart => exact ⟨0, by omega, rfl, 0, rfl⟩
            case round =>
              obtain ⟨k, hk, rfl, q, rfl⟩ := hrel
              by_cases hlt : k < n
              · have ck := hc' k hlt
                by_cases hbt : (k : Int) = but
                · exact absurd hbt (by omega)
                · have hne : (((k : Int)) != but) = true := by simpa using hbt
                  obtain ⟨g1, g2⟩ := HGA'.out k hlt hbt
                  obtain ⟨g3, g4⟩ := HGB'.out k hlt hbt
                  clear hc' HGA' HGB'
                  generalize zc k = z at *
                  generalize zc pa = y at *
                  generalize zc pb = x at *
                  have f1 : ¬ y < z := by omega
                  have f3 : ¬ z < x := by omega
                  by_cases e1 : z = y
                  · have f2 : ¬ k < pa := by have := g2 e1; omega
                    by_cases e2 : z = x
                    · have f4 : ¬ k < pb := by have := g4 e2; omega
                      subst e1 e2
                      clear g1 g2 g3 g4 f1 f3
                      go_wp2
                      go_quiet (fail)
                      go_wp2
                      exact ⟨⟨k + 1, by omega, by go_num, _, rfl⟩, by simp [intOf]; omega⟩
                    · have f6 : (z == x) = false := by simpa using e2
                      subst e1
                      clear g1 g2 g3 g4 f1
                      go_wp2
                      go_quiet (fail)
                      go_wp2
                      exact ⟨⟨k + 1, by omega, by go_num, _, rfl⟩, by simp [intOf]; omega⟩
                  · have f5 : (z == y) = false := by simpa using e1
                    by_cases e2 : z = x
                    · have f4 : ¬ k < pb := by have := g4 e2; omega
                      subst e2
                      clear g1 g2 g3 g4 f3
                      go_wp2
                      go_quiet (fail)
                      go_wp2
                      exact ⟨⟨k + 1, by omega, by go_num, _, rfl⟩, by simp [intOf]; omega⟩
                    · have f6 : (z == x) = false := by simpa using e2
                      clear g1 g2 g3 g4
                      go_wp2
                      go_quiet (fail)
                      go_wp2
                      exact ⟨⟨k + 1, by omega, by go_num, _, rfl⟩, by simp [intOf]; omega⟩
              · obtain rfl : k = n := by omega
                clear hc' HGA' HGB'
                go_wp2
                go_ret
                exact ⟨rfl, below_drewN B2.out _⟩
        · rw [if_neg (fun h => hb0 h.1)] at hu
          have hu3 : 0 < (n : Int) := by omega
          clear hu hu2 HOT
          go_wp2
          go_loopw [11] (fun i wr => ∃ k : Nat, k ≤ n ∧ i = .int .i64 k ∧ ∃ q, wr = W2.drewN q) (fun i _ => n - (intOf i).toNat)
          case atStart => exact ⟨0, by omega, rfl, 0, rfl⟩
          case round =>
            obtain ⟨k, hk, rfl, q, rfl⟩ := hrel
            by_cases hlt : k < n
            · have ck := hc' k hlt
              by_cases hbt : (k : Int) = but
              · exact absurd hbt (by omega)
              · have hne : (((k : Int)) != but) = true := by simpa using hbt
                obtain ⟨g1, g2⟩ := HGA'.out k hlt hbt
                obtain ⟨g3, g4⟩ := HGB'.out k hlt hbt
                clear hc' HGA' HGB'
                generalize zc k = z at *
                generalize zc pa = y at *
                generalize zc pb = x at *
                have f1 : ¬ y < z := by omega
                have f3 : ¬ z < x := by omega
                by_cases e1 : z = y
                · have f2 : ¬ k < pa := by have := g2 e1; omega
                  by_cases e2 : z = x
                  · have f4 : ¬ k < pb := by have := g4 e2; omega
                    subst e1 e2
                    clear g1 g2 g3 g4 f1 f3
                    go_wp2
                    go_quiet (fail)
                    go_wp2
                    exact ⟨⟨k + 1, by omega, by go_num, _, rfl⟩, by simp [intOf]; omega⟩
                  · have f6 : (z == x) = false := by simpa using e2
                    subst e1
                    clear g1 g2 g3 g4 f1
                    go_wp2
                    go_quiet (fail)
                    go_wp2
                    exact ⟨⟨k + 1, by omega, by go_num, _, rfl⟩, by simp [intOf]; omega⟩
                · have f5 : (z == y) = false := by simpa using e1
                  by_cases e2 : z = x
                  · have f4 : ¬ k < pb := by have := g4 e2; omega
                    subst e2
                    clear g1 g2 g3 g4 f3
                    go_wp2
                    go_quiet (fail)
                    go_wp2
                    exact ⟨⟨k + 1, by omega, by go_num, _, rfl⟩, by simp [intOf]; omega⟩
                  · have f6 : (z == x) = false := by simpa using e2
                    clear g1 g2 g3 g4
                    go_wp2
                    go_quiet (fail)
                    go_wp2
                    exact ⟨⟨k + 1, by omega, by go_num, _, rfl⟩, by simp [intOf]; omega⟩
            · obtain rfl : k = n := by omega
              clear hc' HGA' HGB'
              go_wp2
              go_ret
              exact ⟨rfl, below_drewN B2.out _⟩

set_option maxRecDepth 100000 in
theorem lifted (os : Os) (started : os.Started) (H : Type) (enc : TypeId × Value → H) :
    ReturnsInHanded {} Try.checked os 8 .any (Rows.spreadEndsSpec.pre6 enc Try.prog Try.f8 Rows.spreadEndsRow.domain false) (Rows.spreadEndsSpec.post enc Try.prog Try.f8 false true false false) := by
  refine returnsInHanded_of_change (C := Try.checked) own started (by kernel_rfl) Try.func8
    (ChangeSpec.witness6 (enc := enc) (C := Try.checked) false ⟨#[], #[.slice none 0 0, .int .i64 0], []⟩ 8 (by kernel_rfl) (by kernel_rfl) (by kernel_rfl) (by kernel_rfl)) ?_
  intro W base args ds gs before hval0 hW _ _
  have hval : ∀ (j : Nat) t v, Try.f8.params[j]? = some t → args[j]? = some v → Value.okWide Try.prog W .any base t v := hval0
  have hW' := hW
  obtain ⟨p, q, hA0, hV, rfl, -, -⟩ := hW
  have hA : DataW.TrodAll enc Try.prog W 0 (fun _ => true) true Try.f8.params.toList args.toList ds p := hA0
  rw [Try.params8] at hA hval
  obtain ⟨v0, vs0, d0, ds0, p0, q0, hargs, rfl, rfl, h0, r0⟩ := trodAll_cons hA
  obtain ⟨v1, vs1, d1, ds1, p1, q1, rfl, rfl, rfl, h1, r1⟩ := trodAll_cons r0
  obtain ⟨rfl, rfl, rfl⟩ := trodAll_nil r1
  obtain rfl : args = #[v0, v1] := by cases args; simp_all
  obtain ⟨rfl, rfl⟩ := trodVars_none hV
  obtain ⟨a0, w0⟩ := ints_arg Try.underlying26 Try.underlying3 (by kernel_rfl) (hval 0 26 v0 rfl rfl) h0
  obtain ⟨a1, rfl, rfl, rfl, w1⟩ := open_int Try.underlying3 (hval 1 3 v1 rfl rfl) h1
  clear hA0 hval0
  refine (walk v0 a0 a1 W w0 w1).mono fun e W' ⟨he, hb⟩ => ?_
  subst he
  exact ⟨_, rfl, post_law laidOut (by kernel_rfl) rfl (by kernel_rfl) Try.underlying4 hW' rfl hb⟩

/-- **SpreadEnds**: the given statement. -/
theorem proved : Rows.SpreadEndsSaid :=
  OpenClaim.holds_of_wide 8 Try.f8 rfl rfl rfl rfl rfl rfl rfl ⟨rfl, rfl, rfl, rfl, rfl⟩ rfl rfl rfl rfl rfl (by kernel_rfl) Try.func8 (by kernel_rfl)
    (of_decide_eq_true (by kernel_rfl)) (by unfold Func.isWrapper; first | (rw [if_pos (by decide +kernel)]; kernel_rfl) | (rw [if_neg (by decide +kernel)]; exact ⟨rfl, rfl⟩))
    (fun os started H enc _ => lifted os started H enc)
end Go.Proofs.Ytnjbcblhciblcaa.spreadEnds
