/-
  CpusParses: the mask of any text, or why there is none, and its Canon, are what the document says.
-/
import Derived.Test.YteklgnmkalippaaDoorCpD
import Derived.Test.YteklgnmkalippaaDoorCpT
import Derived.Test.YteklgnmkalippaaDoorPost
import Derived.ChangeMaps5
namespace Go.Proofs.YteklgnmkalippaaDoor.cpusParses
open Go.ChangeShapes Go.WideShapes Go.ChangeAt Go.RowKit Mk Cp

set_option maxRecDepth 100000 in
set_option maxHeartbeats 4000000 in
theorem core (l : List UInt8) (hl : l.length ≤ 9223372036854775807) (w : World) (hO : Ok w) :
    Calls Tryd.prog 4 #[.string (st l)] w fun e w' => e = .returned (.bool true) ∧ Below w.heap.size w w' := by
  have HO := Lib.hid hO
  obtain ⟨n, hn⟩ : ∃ n, n = l.length := ⟨_, rfl⟩
  have hz : (st l).size = n := by rw [st_size, hn]
  have hn2 : n ≤ 9223372036854775807 := by omega
  clear hO
  by_cases h1 : 1100 < n
  · clear hn hl
    go_enter Tryd.func4, Tryd.ntmps4
    go_wp2_with fail
    refine (awake_any _ HO.out).mono ?_
    rintro e' w_b1 ⟨rfl, b1⟩
    go_wp2
    go_ret
    exact ⟨rfl, b1⟩
  · have HL : Hid (l.length ≤ 1000000) := by unfold Hid; omega
    obtain ⟨m, hm⟩ : ∃ m, parseM l = m := ⟨_, rfl⟩
    obtain ⟨k, hk⟩ : ∃ k, parseE l = k := ⟨_, rfl⟩
    obtain ⟨c, hc⟩ : ∃ c, canonL l = c := ⟨_, rfl⟩
    have HM := Lib.hid hm
    have HK := Lib.hid hk
    have HC := Lib.hid hc
    have q1 : ((st c).toList == (st c).toList) = true := by simp
    have q2 : ((m : Int) == (m : Int)) = true := by simp
    have q3 : (k == k) = true := by simp
    clear hm hk hc hn hl
    go_enter Tryd.func4, Tryd.ntmps4
    go_wp2_with fail
    refine (parse_any l HL.out _ HO.out.2).mono ?_
    rintro e' w_b1 ⟨rfl, b1⟩
    have O1 := Lib.hid (HO.out.below b1)
    rw [HM.out, HK.out]
    go_wp2_with fail
    refine (rparse_any l HL.out _).mono ?_
    rintro e' w_b2 ⟨rfl, b2⟩
    have O2 := Lib.hid (O1.out.below b2)
    rw [HM.out, HK.out]
    go_wp2_with fail
    refine (canon_any l HL.out _ O2.out.2 O2.out.1).mono ?_
    rintro e' w_b3 ⟨rfl, b3⟩
    have O3 := Lib.hid (O2.out.below b3)
    rw [HC.out, HK.out]
    go_wp2_with fail
    refine (rcanon_any l HL.out _).mono ?_
    rintro e' w_b4 ⟨rfl, b4⟩
    have O4 := Lib.hid (O3.out.below b4)
    rw [HC.out, HK.out]
    go_wp2_with fail
    refine (awake_any _ O4.out).mono ?_
    rintro e' w_b5 ⟨rfl, b5⟩
    go_wp2
    go_ret
    exact ⟨rfl, bOn (bOn (bOn (bOn b1 b2) b3) b4) b5⟩

theorem walk (s : ByteArray) (hs : s.size ≤ maxLen) (w : World) (hO : Ok w) :
    Calls Tryd.prog 4 #[.string s] w fun e w' => e = .returned (.bool true) ∧ Below w.heap.size w w' := by
  rw [st_eta s]
  refine core _ ?_ w hO
  have : s.data.toList.length = s.size := Array.length_toList
  rw [this]; unfold maxLen at hs; omega

theorem met (os : Os) : laidMet Tryd.prog Rows.cpusParsesRow.laid ((laidWorld os).forCall (fun _ _ => 0) ⟨#[], #[.string ⟨#[]⟩], []⟩).memory := laidMet_of_run' 8 (by kernel_rfl) (by kernel_rfl)
theorem reads (os : Os) {H : Type} (enc : TypeId × Value → H) : ∃ ps, DataW.whole enc Tryd.prog ((laidWorld os).forCall (fun _ _ => 0) ⟨#[], #[.string ⟨#[]⟩], []⟩).memory Tryd.f4.params.toList Rows.cpusParsesSpec.vars false #[Value.string ⟨#[]⟩].toList 8 = some ([.lit (.string [])], [], ps) := ⟨[], by kernel_rfl⟩
set_option maxRecDepth 100000 in
theorem lifted (os : Os) (started : os.Started) (H : Type) (enc : TypeId × Value → H) (F : Stop.Interp) :
    ReturnsInHanded {} Tryd.checked os 4 .any ((OpenSpec.ofChange Rows.cpusParsesSpec).preRow enc Tryd.prog Tryd.f4 Rows.cpusParsesRow.domain false Rows.cpusParsesRow.laid) (((OpenSpec.ofChange Rows.cpusParsesSpec).at F).post enc Tryd.prog Tryd.f4 false true false false) := by
  obtain ⟨ps, hx⟩ := reads os enc
  refine returnsInHanded_of_row (C := Tryd.checked) (s := OpenSpec.ofChange Rows.cpusParsesSpec) own started (by kernel_rfl) Tryd.func4 (witness_row_at (enc := enc) (C := Tryd.checked) false (laidWorld os) #[.string ⟨#[]⟩] rfl (by kernel_rfl) (by kernel_rfl) (by kernel_rfl) (OpenSpec.preRow_of_cond 8 hx (by kernel_rfl) (fun k hk => by cases hk) (by kernel_rfl) (met os))) ?_
  intro W base args ds gs before hval0 hW _ _ _ hL _ _
  have hval : ∀ (j : Nat) t v, Tryd.f4.params[j]? = some t → args[j]? = some v → Value.okWide Tryd.prog W .any base t v := hval0
  have hW' := hW
  obtain ⟨p, q, hA0, hV, rfl, -, -⟩ := hW
  have hA : DataW.TrodAll enc Tryd.prog W 0 (fun _ => true) true Tryd.f4.params.toList args.toList ds p := hA0
  rw [Tryd.params4] at hA hval
  obtain ⟨v0, vs0, d0, ds0, p0, q0, hargs, rfl, rfl, h0, r0⟩ := trodAll_cons hA
  obtain ⟨rfl, rfl, rfl⟩ := trodAll_nil r0
  obtain rfl : args = #[v0] := by cases args; simp_all
  obtain ⟨rfl, rfl⟩ := trodVars_none hV
  obtain ⟨a0, rfl, rfl, rfl, w0⟩ := Go.ChangeMaps.open_string Tryd.underlying9 (hval 0 9 v0 rfl rfl) h0
  clear hA0 hval0
  refine (walk a0 w0 W (tab_laid hL)).mono fun e W' ⟨he, hb⟩ => ?_
  subst he
  exact ⟨_, rfl, post_law laidOut (by kernel_rfl) rfl (by kernel_rfl) Tryd.underlying4 hW' rfl hb⟩

theorem row : Rows.CpusParsesSaid :=
  OpenClaim.holds_of_cond 4 Tryd.f4 rfl rfl rfl rfl rfl rfl rfl ⟨rfl, rfl, rfl, rfl, rfl⟩ rfl rfl rfl rfl rfl (by kernel_rfl) Tryd.func4 (by kernel_rfl)
    (of_decide_eq_true (by kernel_rfl)) (by unfold Func.isWrapper; first | (rw [if_pos (by decide +kernel)]; kernel_rfl) | (rw [if_neg (by decide +kernel)]; exact ⟨rfl, rfl⟩))
    (fun os started H enc _ F => by rw [OpenClaim.pre_eq_preRow]; exact lifted os started H enc F)
theorem simple (f : FuncId) (fn : Func) (hf : Tryd.pinned.checked.prog.funcNamed Rows.cpusParsesRow.func = some f) (hfn : Tryd.pinned.checked.prog.funcs[f]? = some fn) :
    true = Tryd.pinned.checked.prog.looks [] ∧ ∀ (j : Nat) t, fn.params[j]? = some t → Tryd.pinned.checked.prog.wantsStandIn t = false := by
  have e1 : Tryd.prog.funcNamed Rows.cpusParsesRow.func = some 4 := by kernel_rfl
  cases e1.symm.trans hf
  cases Tryd.func4.symm.trans hfn
  exact ⟨by kernel_rfl, no_stand (P := Tryd.prog) (by kernel_rfl)⟩
/-- **CpusParses**: the given statement, a tied card. -/
theorem proved : Rows.CpusParsesCardSaid :=
  Claim7.holds_tied_plain_at .later [] _ _ _ _ row (fun _ h => by cases h) (by kernel_rfl) (fun _ h => by cases h) cpusParses_row_tie rfl ⟨rfl, rfl⟩ (by kernel_rfl) rfl simple (by kernel_rfl)
end Go.Proofs.YteklgnmkalippaaDoor.cpusParses
