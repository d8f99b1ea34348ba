/-
  CpusBoth: the texts of two masks that have CPUs, with a comma between, mean both, in either order.
-/
import Derived.Test.YteklgnmkalippaaDoorCpD
import Derived.Test.YteklgnmkalippaaDoorCpO
import Derived.Test.YteklgnmkalippaaDoorPost
namespace Go.Proofs.YteklgnmkalippaaDoor.cpusBoth
open Go.ChangeShapes Go.WideShapes Go.ChangeAt Go.RowKit Mk Cp

set_option maxRecDepth 100000 in
set_option maxHeartbeats 4000000 in
theorem core (a b : Nat) (ha : V a) (hb : V b) (w : World) (hO : Ok w) :
    Calls Tryd.prog 6 #[.int .u64 a, .int .u64 b] w fun e w' => e = .returned (.bool true) ∧ Below w.heap.size w w' := by
  have HO := Lib.hid hO
  have HA := Lib.hid ha
  have HB := Lib.hid hb
  clear hO ha hb
  by_cases h1 : a = 0
  · have q1 : ((a : Int) == 0) = true := by rw [h1]; rfl
    clear h1
    go_enter Tryd.func6, Tryd.ntmps6
    go_wp2_with fail
    refine (awake_any _ HO.out).mono ?_
    rintro e' w_b1 ⟨rfl, b1⟩
    go_wp2
    go_ret
    exact ⟨rfl, b1⟩
  · have q1 : ((a : Int) == 0) = false := by simpa using h1
    by_cases h2 : b = 0
    · have q2 : ((b : Int) == 0) = true := by rw [h2]; rfl
      clear h1 h2
      go_enter Tryd.func6, Tryd.ntmps6
      go_wp2_with fail
      refine (awake_any _ HO.out).mono ?_
      rintro e' w_b1 ⟨rfl, b1⟩
      go_wp2
      go_ret
      exact ⟨rfl, b1⟩
    · have q2 : ((b : Int) == 0) = false := by simpa using h2
      have HP := Lib.hid (parseM_both HA.out HB.out h1 h2)
      have HQ := Lib.hid (parseM_both HB.out HA.out h2 h1)
      have HC : Hid (b ||| a = a ||| b) := Nat.or_comm b a
      have HR : Hid (bits .or .u64 (a : Int) (b : Int) = ((a ||| b : Nat) : Int)) := or_walk a b HA.out HB.out
      have la := Lib.hid (print_len HA.out).2
      have lb := Lib.hid (print_len HB.out).2
      obtain ⟨p, hp⟩ : ∃ p, printL a = p := ⟨_, rfl⟩
      obtain ⟨q, hq⟩ : ∃ q, printL b = q := ⟨_, rfl⟩
      obtain ⟨o, ho⟩ : ∃ o, a ||| b = o := ⟨_, rfl⟩
      rw [hp, hq] at HP HQ
      rw [HC.out] at HQ
      rw [ho] at HP HQ HR
      rw [hp] at la
      rw [hq] at lb
      have HPP := Lib.hid hp
      have HQQ := Lib.hid hq
      obtain ⟨n1, s1⟩ : ∃ n, (st p).size = n := ⟨_, rfl⟩
      obtain ⟨n2, s2⟩ : ∃ n, (st q).size = n := ⟨_, rfl⟩
      have s1' : n1 ≤ 191 := by rw [← s1, st_size]; exact la.out
      have s2' : n2 ≤ 191 := by rw [← s2, st_size]; exact lb.out
      have s3 : (st [44]).size = 1 := by rw [st_size]; rfl
      have s4 : (st p ++ st [44]).size = n1 + 1 := by rw [st_add, st_size, List.length_append, ← s1, st_size]; rfl
      have s5 : (st q ++ st [44]).size = n2 + 1 := by rw [st_add, st_size, List.length_append, ← s2, st_size]; rfl
      have HE1 : Hid (st p ++ st [44] ++ st q = st (p ++ [44] ++ q)) := by unfold Hid; rw [st_add, st_add]
      have HE2 : Hid (st q ++ st [44] ++ st p = st (q ++ [44] ++ p)) := by unfold Hid; rw [st_add, st_add]
      have e44 : (⟨#[44]⟩ : ByteArray) = st [44] := rfl
      have L1 : Hid ((p ++ [44] ++ q).length ≤ 1000000) := by unfold Hid; have := la.out; have := lb.out; simp; omega
      have L2 : Hid ((q ++ [44] ++ p).length ≤ 1000000) := by unfold Hid; have := la.out; have := lb.out; simp; omega
      have hoo : ((o : Int) == (o : Int)) = true := by simp
      clear h1 h2 hp hq ho HC
      go_enter Tryd.func6, Tryd.ntmps6
      go_wp2_with fail
      refine (awake_any _ HO.out).mono ?_
      rintro e' w_b1 ⟨rfl, b1⟩
      have O1 := Lib.hid (HO.out.below b1)
      go_wp2_with fail
      refine (print_any a HA.out _ O1.out.1).mono ?_
      rintro e' w_b2 ⟨rfl, b2⟩
      have O2 := Lib.hid (O1.out.below b2)
      rw [HPP.out]
      go_wp2_with fail
      refine (print_any b HB.out _ O2.out.1).mono ?_
      rintro e' w_b3 ⟨rfl, b3⟩
      have O3 := Lib.hid (O2.out.below b3)
      rw [HQQ.out]
      go_wp2_with fail
      rw [HE1.out]
      refine (parse_any (p ++ [44] ++ q) L1.out _ O3.out.2).mono ?_
      rintro e4 w4 ⟨rfl, b4⟩
      have O4 := Lib.hid (O3.out.below b4)
      rw [HP.out.1, HP.out.2]
      go_wp2_with fail
      rw [HE2.out]
      refine (parse_any (q ++ [44] ++ p) L2.out _ O4.out.2).mono ?_
      rintro e5 w5 ⟨rfl, b5⟩
      rw [HQ.out.1, HQ.out.2]
      have hor := HR.out
      go_wp2
      go_ret
      exact ⟨rfl, bOn (bOn (bOn (bOn b1 b2) b3) b4) b5⟩

theorem walk (a0 a1 : Int) (w0 : (Lit.int .u64 a0).wf = true) (w1 : (Lit.int .u64 a1).wf = true) (w : World) (hO : Ok w) :
    Calls Tryd.prog 6 #[.int .u64 a0, .int .u64 a1] w fun e w' => e = .returned (.bool true) ∧ Below w.heap.size w w' := by
  obtain ⟨a, rfl, ha⟩ := V_of_wf w0
  obtain ⟨b, rfl, hb⟩ := V_of_wf w1
  exact core a b ha hb w hO

theorem met (os : Os) : laidMet Tryd.prog Rows.cpusBothRow.laid ((laidWorld os).forCall (fun _ _ => 0) ⟨#[], #[.int .u64 0, .int .u64 0], []⟩).memory := laidMet_of_run' 8 (by kernel_rfl) (by kernel_rfl)
theorem reads (os : Os) {H : Type} (enc : TypeId × Value → H) : ∃ ps, DataW.whole enc Tryd.prog ((laidWorld os).forCall (fun _ _ => 0) ⟨#[], #[.int .u64 0, .int .u64 0], []⟩).memory Tryd.f6.params.toList Rows.cpusBothSpec.vars false #[Value.int .u64 0, Value.int .u64 0].toList 8 = some ([.lit (.int .u64 0), .lit (.int .u64 0)], [], ps) := ⟨[], by kernel_rfl⟩
set_option maxRecDepth 100000 in
theorem lifted (os : Os) (started : os.Started) (H : Type) (enc : TypeId × Value → H) (F : Stop.Interp) :
    ReturnsInHanded {} Tryd.checked os 6 .any ((OpenSpec.ofChange Rows.cpusBothSpec).preRow enc Tryd.prog Tryd.f6 Rows.cpusBothRow.domain false Rows.cpusBothRow.laid) (((OpenSpec.ofChange Rows.cpusBothSpec).at F).post enc Tryd.prog Tryd.f6 false true false false) := by
  obtain ⟨ps, hx⟩ := reads os enc
  refine returnsInHanded_of_row (C := Tryd.checked) (s := OpenSpec.ofChange Rows.cpusBothSpec) own started (by kernel_rfl) Tryd.func6 (witness_row_at (enc := enc) (C := Tryd.checked) false (laidWorld os) #[.int .u64 0, .int .u64 0] rfl (by kernel_rfl) (by kernel_rfl) (by kernel_rfl) (OpenSpec.preRow_of_cond 8 hx (by kernel_rfl) (fun k hk => by cases hk) (by kernel_rfl) (met os))) ?_
  intro W base args ds gs before hval0 hW _ _ _ hL _ _
  have hval : ∀ (j : Nat) t v, Tryd.f6.params[j]? = some t → args[j]? = some v → Value.okWide Tryd.prog W .any base t v := hval0
  have hW' := hW
  obtain ⟨p, q, hA0, hV, rfl, -, -⟩ := hW
  have hA : DataW.TrodAll enc Tryd.prog W 0 (fun _ => true) true Tryd.f6.params.toList args.toList ds p := hA0
  rw [Tryd.params6] at hA hval
  obtain ⟨v0, vs0, d0, ds0, p0, q0, hargs, rfl, rfl, h0, r0⟩ := trodAll_cons hA
  obtain ⟨v1, vs1, d1, ds1, p1, q1, rfl, rfl, rfl, h1, r1⟩ := trodAll_cons r0
  obtain ⟨rfl, rfl, rfl⟩ := trodAll_nil r1
  obtain rfl : args = #[v0, v1] := by cases args; simp_all
  obtain ⟨rfl, rfl⟩ := trodVars_none hV
  obtain ⟨a0, rfl, rfl, rfl, w0⟩ := open_int Tryd.underlying22 (hval 0 22 v0 rfl rfl) h0
  obtain ⟨a1, rfl, rfl, rfl, w1⟩ := open_int Tryd.underlying22 (hval 1 22 v1 rfl rfl) h1
  clear hA0 hval0
  refine (walk a0 a1 w0 w1 W (tab_laid hL)).mono fun e W' ⟨he, hb⟩ => ?_
  subst he
  exact ⟨_, rfl, post_law laidOut (by kernel_rfl) rfl (by kernel_rfl) Tryd.underlying4 hW' rfl hb⟩

theorem row : Rows.CpusBothSaid :=
  OpenClaim.holds_of_cond 6 Tryd.f6 rfl rfl rfl rfl rfl rfl rfl ⟨rfl, rfl, rfl, rfl, rfl⟩ rfl rfl rfl rfl rfl (by kernel_rfl) Tryd.func6 (by kernel_rfl)
    (of_decide_eq_true (by kernel_rfl)) (by unfold Func.isWrapper; first | (rw [if_pos (by decide +kernel)]; kernel_rfl) | (rw [if_neg (by decide +kernel)]; exact ⟨rfl, rfl⟩))
    (fun os started H enc _ F => by rw [OpenClaim.pre_eq_preRow]; exact lifted os started H enc F)
theorem simple (f : FuncId) (fn : Func) (hf : Tryd.pinned.checked.prog.funcNamed Rows.cpusBothRow.func = some f) (hfn : Tryd.pinned.checked.prog.funcs[f]? = some fn) :
    true = Tryd.pinned.checked.prog.looks [] ∧ ∀ (j : Nat) t, fn.params[j]? = some t → Tryd.pinned.checked.prog.wantsStandIn t = false := by
  have e1 : Tryd.prog.funcNamed Rows.cpusBothRow.func = some 6 := by kernel_rfl
  cases e1.symm.trans hf
  cases Tryd.func6.symm.trans hfn
  exact ⟨by kernel_rfl, no_stand (P := Tryd.prog) (by kernel_rfl)⟩
/-- **CpusBoth**: the given statement, a tied card. -/
theorem proved : Rows.CpusBothCardSaid :=
  Claim7.holds_tied_plain_at .later [] _ _ _ _ row (fun _ h => by cases h) (by kernel_rfl) (fun _ h => by cases h) cpusBoth_row_tie rfl ⟨rfl, rfl⟩ (by kernel_rfl) rfl simple (by kernel_rfl)
end Go.Proofs.YteklgnmkalippaaDoor.cpusBoth
