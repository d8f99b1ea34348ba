/-
  CpusRuns: all CPUs from one to another one are one item.
-/
import Derived.Test.YteklgnmkalippaaDoorCpD
import Derived.Test.YteklgnmkalippaaDoorCpO
import Derived.Test.YteklgnmkalippaaDoorMskR
import Derived.Test.YteklgnmkalippaaDoorPost
namespace Go.Proofs.YteklgnmkalippaaDoor.cpusRuns
open Go.ChangeShapes Go.WideShapes Go.ChangeAt Go.RowKit Mk Cp

theorem st_get (l : List UInt8) (k : Nat) (h : k < (st l).size) (h' : k < l.length) : (st l)[k]'h = l[k] := by simp [st, ByteArray.getElem_eq_getElem_data]
theorem no_comma (l : List UInt8) (k : Nat) (h : k < (st l).size) (hc : ¬ (44 : UInt8) ∈ l) : ((((st l)[k]'h).toNat : Int) == 44) = false := by
  have h' : k < l.length := by rw [st_size] at h; exact h
  rw [st_get l k h h']
  have hne : l[k] ≠ 44 := fun e => hc (by rw [← e]; exact List.getElem_mem h')
  have : l[k].toNat ≠ 44 := fun e => hne (UInt8.toNat.inj (by rw [e]; rfl))
  simp; omega

set_option maxRecDepth 100000 in
set_option maxHeartbeats 4000000 in
theorem core (a b : Int) (x y : Nat) (hxy : x ≤ y) (hy : y < 64) (ha0 : 0 ≤ a) (ha1 : a ≤ 255) (hb0 : 0 ≤ b) (hb1 : b ≤ 255) (h : (a.tmod 64 = x ∧ b.tmod 64 = y) ∨ (a.tmod 64 = y ∧ b.tmod 64 = x ∧ x < y)) (w : World) (hO : Ok w) :
    Calls Tryd.prog 7 #[.int .u8 a, .int .u8 b] w fun e w' => e = .returned (.bool true) ∧ Below w.heap.size w w' := by
  have HO := Lib.hid hO
  have hs := rng_sub x y hxy
  have HV := Lib.hid (V_rng x y)
  have HS : Hid (IntKind.u64.wrap ((allM ((y : Int) + 1) : Nat) - (allM (x : Int) : Nat)) = (rng x y : Nat)) := by
    unfold Hid
    have := V_rng x y
    rw [hs, IntKind.wrap_u64]; unfold V at this; omega
  have HP := Lib.hid (print_rng x y hxy hy)
  have HM := Lib.hid (parseM_print (V_rng x y))
  have HC := Lib.hid (rnTxt_no (a := x) (b := y) (by omega) hy)
  have HD := Lib.hid (rnTxt_short x y)
  have hl := rnTxt_len x y
  rw [HP.out] at HM
  obtain ⟨p, hp⟩ : ∃ p, rnTxt x y = p := ⟨_, rfl⟩
  obtain ⟨m, hm⟩ : ∃ m, rng x y = m := ⟨_, rfl⟩
  rw [hp] at HP HM HC HD hl
  rw [hm] at HP HM HV HS
  obtain ⟨n, s1⟩ : ∃ n, (st p).size = n := ⟨_, rfl⟩
  have hn : n = p.length := by rw [← s1, st_size]
  have s2 : n ≤ 5 := by omega
  have HN := Lib.hid hn
  have HL : Hid (p.length ≤ 1000000) := by unfold Hid; omega
  have q1 : decide ((n : Int) < 3) = ((x : Int) == (y : Int)) := by
    have := HD.out
    rw [← hn] at this
    by_cases e : x = y
    · subst e
      simp at this
      simp; omega
    · have e1 : ((x : Int) == (y : Int)) = false := by simp; omega
      simp [e] at this
      rw [e1]; simp; omega
  clear hO hs hp hm hn hl
  rcases h with ⟨h1, h2⟩ | ⟨h1, h2, h3⟩
  · have hnx : ¬ y < x := by omega
    go_enter Tryd.func7, Tryd.ntmps7
    go_wp2_with fail
    refine (rall_any ((y : Int) + 1) _).mono ?_
    rintro e1 w1 ⟨rfl, rfl⟩
    go_wp2_with fail
    refine (rall_any (x : Int) _).mono ?_
    rintro e1 w1 ⟨rfl, rfl⟩
    go_wp2_with fail
    rw [HS.out]
    refine (print_any m HV.out _ HO.out.1).mono ?_
    rintro e1 w1 ⟨rfl, b1⟩
    have O1 := Lib.hid (HO.out.below b1)
    rw [HP.out]
    go_wp2_with fail
    refine (parse_any p HL.out _ O1.out.2).mono ?_
    rintro e2 w2 ⟨rfl, b2⟩
    have O2 := Lib.hid (O1.out.below b2)
    rw [HM.out.1, HM.out.2]
    go_wp2
    go_loop [11, 12] (fun c i => ∃ k : Nat, k ≤ n ∧ c = .int .i64 0 ∧ i = .int .i64 k) (fun _ i => n - (intOf i).toNat)
    case atStart => exact ⟨0, by omega, rfl, rfl⟩
    case round =>
      obtain ⟨k, hk, rfl, rfl⟩ := hrel
      by_cases hlt : k < n
      · have hq := no_comma p k (by rw [s1]; exact hlt) HC.out
        go_wp2
        exact ⟨⟨k + 1, by omega, rfl, by go_num⟩, by simp [intOf]; omega⟩
      · obtain rfl : k = n := by omega
        go_wp2_with fail
        refine (awake_any _ O2.out).mono ?_
        rintro e3 w3 ⟨rfl, b3⟩
        go_wp2
        go_ret
        exact ⟨rfl, bOn (bOn b1 b2) b3⟩
  · go_enter Tryd.func7, Tryd.ntmps7
    go_wp2_with fail
    refine (rall_any ((y : Int) + 1) _).mono ?_
    rintro e1 w1 ⟨rfl, rfl⟩
    go_wp2_with fail
    refine (rall_any (x : Int) _).mono ?_
    rintro e1 w1 ⟨rfl, rfl⟩
    go_wp2_with fail
    rw [HS.out]
    refine (print_any m HV.out _ HO.out.1).mono ?_
    rintro e1 w1 ⟨rfl, b1⟩
    have O1 := Lib.hid (HO.out.below b1)
    rw [HP.out]
    go_wp2_with fail
    refine (parse_any p HL.out _ O1.out.2).mono ?_
    rintro e2 w2 ⟨rfl, b2⟩
    have O2 := Lib.hid (O1.out.below b2)
    rw [HM.out.1, HM.out.2]
    go_wp2
    go_loop [11, 12] (fun c i => ∃ k : Nat, k ≤ n ∧ c = .int .i64 0 ∧ i = .int .i64 k) (fun _ i => n - (intOf i).toNat)
    case atStart => exact ⟨0, by omega, rfl, rfl⟩
    case round =>
      obtain ⟨k, hk, rfl, rfl⟩ := hrel
      by_cases hlt : k < n
      · have hq := no_comma p k (by rw [s1]; exact hlt) HC.out
        go_wp2
        exact ⟨⟨k + 1, by omega, rfl, by go_num⟩, by simp [intOf]; omega⟩
      · obtain rfl : k = n := by omega
        go_wp2_with fail
        refine (awake_any _ O2.out).mono ?_
        rintro e3 w3 ⟨rfl, b3⟩
        go_wp2
        go_ret
        exact ⟨rfl, bOn (bOn b1 b2) b3⟩

theorem walk (a b : Int) (w0 : (Lit.int .u8 a).wf = true) (w1 : (Lit.int .u8 b).wf = true) (w : World) (hO : Ok w) :
    Calls Tryd.prog 7 #[.int .u8 a, .int .u8 b] w fun e w' => e = .returned (.bool true) ∧ Below w.heap.size w w' := by
  have ha := bounds_u8 w0
  have hb := bounds_u8 w1
  have ea : a.tmod 64 = a % 64 := Int.tmod_eq_emod_of_nonneg ha.1
  have eb : b.tmod 64 = b % 64 := Int.tmod_eq_emod_of_nonneg hb.1
  by_cases h : a % 64 ≤ b % 64
  · exact core a b (a % 64).toNat (b % 64).toNat (by omega) (by omega) ha.1 (by omega) hb.1 (by omega) (.inl ⟨by rw [ea]; omega, by rw [eb]; omega⟩) w hO
  · exact core a b (b % 64).toNat (a % 64).toNat (by omega) (by omega) ha.1 (by omega) hb.1 (by omega) (.inr ⟨by rw [ea]; omega, by rw [eb]; omega, by omega⟩) w hO

theorem met (os : Os) : laidMet Tryd.prog Rows.cpusRunsRow.laid ((laidWorld os).forCall (fun _ _ => 0) ⟨#[], #[.int .u8 0, .int .u8 0], []⟩).memory := laidMet_of_run' 8 (by kernel_rfl) (by kernel_rfl)
theorem reads (os : Os) {H : Type} (enc : TypeId × Value → H) : ∃ ps, DataW.whole enc Tryd.prog ((laidWorld os).forCall (fun _ _ => 0) ⟨#[], #[.int .u8 0, .int .u8 0], []⟩).memory Tryd.f7.params.toList Rows.cpusRunsSpec.vars false #[Value.int .u8 0, Value.int .u8 0].toList 8 = some ([.lit (.int .u8 0), .lit (.int .u8 0)], [], ps) := ⟨[], by kernel_rfl⟩
set_option maxRecDepth 100000 in
theorem lifted (os : Os) (started : os.Started) (H : Type) (enc : TypeId × Value → H) (F : Stop.Interp) :
    ReturnsInHanded {} Tryd.checked os 7 .any ((OpenSpec.ofChange Rows.cpusRunsSpec).preRow enc Tryd.prog Tryd.f7 Rows.cpusRunsRow.domain false Rows.cpusRunsRow.laid) (((OpenSpec.ofChange Rows.cpusRunsSpec).at F).post enc Tryd.prog Tryd.f7 false true false false) := by
  obtain ⟨ps, hx⟩ := reads os enc
  refine returnsInHanded_of_row (C := Tryd.checked) (s := OpenSpec.ofChange Rows.cpusRunsSpec) own started (by kernel_rfl) Tryd.func7 (witness_row_at (enc := enc) (C := Tryd.checked) false (laidWorld os) #[.int .u8 0, .int .u8 0] rfl (by kernel_rfl) (by kernel_rfl) (by kernel_rfl) (OpenSpec.preRow_of_cond 8 hx (by kernel_rfl) (fun k hk => by cases hk) (by kernel_rfl) (met os))) ?_
  intro W base args ds gs before hval0 hW _ _ _ hL _ _
  have hval : ∀ (j : Nat) t v, Tryd.f7.params[j]? = some t → args[j]? = some v → Value.okWide Tryd.prog W .any base t v := hval0
  have hW' := hW
  obtain ⟨p, q, hA0, hV, rfl, -, -⟩ := hW
  have hA : DataW.TrodAll enc Tryd.prog W 0 (fun _ => true) true Tryd.f7.params.toList args.toList ds p := hA0
  rw [Tryd.params7] at hA hval
  obtain ⟨v0, vs0, d0, ds0, p0, q0, hargs, rfl, rfl, h0, r0⟩ := trodAll_cons hA
  obtain ⟨v1, vs1, d1, ds1, p1, q1, rfl, rfl, rfl, h1, r1⟩ := trodAll_cons r0
  obtain ⟨rfl, rfl, rfl⟩ := trodAll_nil r1
  obtain rfl : args = #[v0, v1] := by cases args; simp_all
  obtain ⟨rfl, rfl⟩ := trodVars_none hV
  obtain ⟨a0, rfl, rfl, rfl, w0⟩ := open_int Tryd.underlying5 (hval 0 5 v0 rfl rfl) h0
  obtain ⟨a1, rfl, rfl, rfl, w1⟩ := open_int Tryd.underlying5 (hval 1 5 v1 rfl rfl) h1
  clear hA0 hval0
  refine (walk a0 a1 w0 w1 W (tab_laid hL)).mono fun e W' ⟨he, hb⟩ => ?_
  subst he
  exact ⟨_, rfl, post_law laidOut (by kernel_rfl) rfl (by kernel_rfl) Tryd.underlying4 hW' rfl hb⟩

theorem row : Rows.CpusRunsSaid :=
  OpenClaim.holds_of_cond 7 Tryd.f7 rfl rfl rfl rfl rfl rfl rfl ⟨rfl, rfl, rfl, rfl, rfl⟩ rfl rfl rfl rfl rfl (by kernel_rfl) Tryd.func7 (by kernel_rfl)
    (of_decide_eq_true (by kernel_rfl)) (by unfold Func.isWrapper; first | (rw [if_pos (by decide +kernel)]; kernel_rfl) | (rw [if_neg (by decide +kernel)]; exact ⟨rfl, rfl⟩))
    (fun os started H enc _ F => by rw [OpenClaim.pre_eq_preRow]; exact lifted os started H enc F)
theorem simple (f : FuncId) (fn : Func) (hf : Tryd.pinned.checked.prog.funcNamed Rows.cpusRunsRow.func = some f) (hfn : Tryd.pinned.checked.prog.funcs[f]? = some fn) :
    true = Tryd.pinned.checked.prog.looks [] ∧ ∀ (j : Nat) t, fn.params[j]? = some t → Tryd.pinned.checked.prog.wantsStandIn t = false := by
  have e1 : Tryd.prog.funcNamed Rows.cpusRunsRow.func = some 7 := by kernel_rfl
  cases e1.symm.trans hf
  cases Tryd.func7.symm.trans hfn
  exact ⟨by kernel_rfl, no_stand (P := Tryd.prog) (by kernel_rfl)⟩
/-- **CpusRuns**: the given statement, a tied card. -/
theorem proved : Rows.CpusRunsCardSaid :=
  Claim7.holds_tied_plain_at .later [] _ _ _ _ row (fun _ h => by cases h) (by kernel_rfl) (fun _ h => by cases h) cpusRuns_row_tie rfl ⟨rfl, rfl⟩ (by kernel_rfl) rfl simple (by kernel_rfl)
end Go.Proofs.YteklgnmkalippaaDoor.cpusRuns
