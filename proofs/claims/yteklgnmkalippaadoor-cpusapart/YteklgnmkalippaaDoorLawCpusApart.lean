/-
  CpusApart: unlike masks have unlike texts; no text is empty, or longer than 200 bytes.
-/
import Derived.Test.YteklgnmkalippaaDoorCpD
import Derived.Test.YteklgnmkalippaaDoorCpO
import Derived.Test.YteklgnmkalippaaDoorPost
namespace Go.Proofs.YteklgnmkalippaaDoor.cpusApart
open Go.ChangeShapes Go.WideShapes Go.ChangeAt Go.RowKit Mk Cp

set_option maxRecDepth 100000 in
set_option maxHeartbeats 4000000 in
theorem core (a b : Nat) (ha : V a) (hb : V b) (p q : List UInt8) (hp : printL a = p) (hq : printL b = q) (n : Nat) (s1 : (st p).size = n) (s2 : 1 ≤ n) (s3 : n ≤ 200)
    (x : Bool) (q1 : ((st p).toList == (st q).toList) = x) (q2 : ((a : Int) == (b : Int)) = x) (y : Bool) (q3 : ((st p).toList == [45]) = y) (q4 : ((a : Int) == 0) = y) (w : World) (hO : Ok w) :
    Calls Tryd.prog 8 #[.int .u64 a, .int .u64 b] w fun e w' => e = .returned (.bool true) ∧ Below w.heap.size w w' := by
  have HO := Lib.hid hO
  have HA := Lib.hid ha
  have HB := Lib.hid hb
  have HP := Lib.hid hp
  have HQ := Lib.hid hq
  clear hO ha hb hp hq
  go_enter Tryd.func8, Tryd.ntmps8
  go_wp2_with fail
  refine (print_any a HA.out _ HO.out.1).mono ?_
  rintro e' w_b1 ⟨rfl, b1⟩
  have O1 := Lib.hid (HO.out.below b1)
  rw [HP.out]
  go_wp2_with fail
  refine (print_any b HB.out _ O1.out.1).mono ?_
  rintro e' w_b2 ⟨rfl, b2⟩
  have O2 := Lib.hid (O1.out.below b2)
  rw [HQ.out]
  go_wp2_with fail
  refine (awake_any _ O2.out).mono ?_
  rintro e' w_b3 ⟨rfl, b3⟩
  go_wp2
  go_ret
  refine ⟨?_, bOn (bOn b1 b2) b3⟩
  cases x <;> cases y <;> rfl

theorem walk (a0 a1 : Int) (w0 : (Lit.int .u64 a0).wf = true) (w1 : (Lit.int .u64 a1).wf = true) (w : World) (hO : Ok w) :
    Calls Tryd.prog 8 #[.int .u64 a0, .int .u64 a1] w fun e w' => e = .returned (.bool true) ∧ Below w.heap.size w w' := by
  obtain ⟨a, rfl, ha⟩ := V_of_wf w0
  obtain ⟨b, rfl, hb⟩ := V_of_wf w1
  have hl := print_len ha
  refine core a b ha hb _ _ rfl rfl _ (st_size _) hl.1 (by omega) _ rfl ?_ _ rfl ?_ w hO
  · rw [st_toList, st_toList]
    by_cases e : a = b
    · subst e; simp
    · have : printL a ≠ printL b := fun h => e (print_inj ha hb h)
      have e1 : ((a : Int) == (b : Int)) = false := by simp; omega
      have e2 : (printL a == printL b) = false := by simpa using this
      rw [e1, e2]
  · rw [st_toList]
    by_cases e : a = 0
    · subst e; rfl
    · have e1 : ((a : Int) == 0) = false := by simpa using e
      have e2 : (printL a == [45]) = false := by simpa using print_dash ha e
      rw [e1, e2]

theorem met (os : Os) : laidMet Tryd.prog Rows.cpusApartRow.laid ((laidWorld os).forCall (fun _ _ => 0) ⟨#[], #[.int .u64 0, .int .u64 0], []⟩).memory := laidMet_of_run' 8 (by kernel_rfl) (by kernel_rfl)
theorem reads (os : Os) {H : Type} (enc : TypeId × Value → H) : ∃ ps, DataW.whole enc Tryd.prog ((laidWorld os).forCall (fun _ _ => 0) ⟨#[], #[.int .u64 0, .int .u64 0], []⟩).memory Tryd.f8.params.toList Rows.cpusApartSpec.vars false #[Value.int .u64 0, Value.int .u64 0].toList 8 = some ([.lit (.int .u64 0), .lit (.int .u64 0)], [], ps) := ⟨[], by kernel_rfl⟩
set_option maxRecDepth 100000 in
theorem lifted (os : Os) (started : os.Started) (H : Type) (enc : TypeId × Value → H) (F : Stop.Interp) :
    ReturnsInHanded {} Tryd.checked os 8 .any ((OpenSpec.ofChange Rows.cpusApartSpec).preRow enc Tryd.prog Tryd.f8 Rows.cpusApartRow.domain false Rows.cpusApartRow.laid) (((OpenSpec.ofChange Rows.cpusApartSpec).at F).post enc Tryd.prog Tryd.f8 false true false false) := by
  obtain ⟨ps, hx⟩ := reads os enc
  refine returnsInHanded_of_row (C := Tryd.checked) (s := OpenSpec.ofChange Rows.cpusApartSpec) own started (by kernel_rfl) Tryd.func8 (witness_row_at (enc := enc) (C := Tryd.checked) false (laidWorld os) #[.int .u64 0, .int .u64 0] rfl (by kernel_rfl) (by kernel_rfl) (by kernel_rfl) (OpenSpec.preRow_of_cond 8 hx (by kernel_rfl) (fun k hk => by cases hk) (by kernel_rfl) (met os))) ?_
  intro W base args ds gs before hval0 hW _ _ _ hL _ _
  have hval : ∀ (j : Nat) t v, Tryd.f8.params[j]? = some t → args[j]? = some v → Value.okWide Tryd.prog W .any base t v := hval0
  have hW' := hW
  obtain ⟨p, q, hA0, hV, rfl, -, -⟩ := hW
  have hA : DataW.TrodAll enc Tryd.prog W 0 (fun _ => true) true Tryd.f8.params.toList args.toList ds p := hA0
  rw [Tryd.params8] at hA hval
  obtain ⟨v0, vs0, d0, ds0, p0, q0, hargs, rfl, rfl, h0, r0⟩ := trodAll_cons hA
  obtain ⟨v1, vs1, d1, ds1, p1, q1, rfl, rfl, rfl, h1, r1⟩ := trodAll_cons r0
  obtain ⟨rfl, rfl, rfl⟩ := trodAll_nil r1
  obtain rfl : args = #[v0, v1] := by cases args; simp_all
  obtain ⟨rfl, rfl⟩ := trodVars_none hV
  obtain ⟨a0, rfl, rfl, rfl, w0⟩ := open_int Tryd.underlying22 (hval 0 22 v0 rfl rfl) h0
  obtain ⟨a1, rfl, rfl, rfl, w1⟩ := open_int Tryd.underlying22 (hval 1 22 v1 rfl rfl) h1
  clear hA0 hval0
  refine (walk a0 a1 w0 w1 W (tab_laid hL)).mono fun e W' ⟨he, hb⟩ => ?_
  subst he
  exact ⟨_, rfl, post_law laidOut (by kernel_rfl) rfl (by kernel_rfl) Tryd.underlying4 hW' rfl hb⟩

theorem row : Rows.CpusApartSaid :=
  OpenClaim.holds_of_cond 8 Tryd.f8 rfl rfl rfl rfl rfl rfl rfl ⟨rfl, rfl, rfl, rfl, rfl⟩ rfl rfl rfl rfl rfl (by kernel_rfl) Tryd.func8 (by kernel_rfl)
    (of_decide_eq_true (by kernel_rfl)) (by unfold Func.isWrapper; first | (rw [if_pos (by decide +kernel)]; kernel_rfl) | (rw [if_neg (by decide +kernel)]; exact ⟨rfl, rfl⟩))
    (fun os started H enc _ F => by rw [OpenClaim.pre_eq_preRow]; exact lifted os started H enc F)
theorem simple (f : FuncId) (fn : Func) (hf : Tryd.pinned.checked.prog.funcNamed Rows.cpusApartRow.func = some f) (hfn : Tryd.pinned.checked.prog.funcs[f]? = some fn) :
    true = Tryd.pinned.checked.prog.looks [] ∧ ∀ (j : Nat) t, fn.params[j]? = some t → Tryd.pinned.checked.prog.wantsStandIn t = false := by
  have e1 : Tryd.prog.funcNamed Rows.cpusApartRow.func = some 8 := by kernel_rfl
  cases e1.symm.trans hf
  cases Tryd.func8.symm.trans hfn
  exact ⟨by kernel_rfl, no_stand (P := Tryd.prog) (by kernel_rfl)⟩
/-- **CpusApart**: the given statement, a tied card. -/
theorem proved : Rows.CpusApartCardSaid :=
  Claim7.holds_tied_plain_at .later [] _ _ _ _ row (fun _ h => by cases h) (by kernel_rfl) (fun _ h => by cases h) cpusApart_row_tie rfl ⟨rfl, rfl⟩ (by kernel_rfl) rfl simple (by kernel_rfl)
end Go.Proofs.YteklgnmkalippaaDoor.cpusApart
