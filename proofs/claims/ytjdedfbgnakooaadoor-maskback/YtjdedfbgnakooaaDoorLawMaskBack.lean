/-
  MaskBack returns true at every input, and turns nothing that was there: Of undoes List, whatever stands twice. The table of math/bits is tied to the program's text.
-/
import Derived.Test.YtjdedfbgnakooaaDoorMskC
import Derived.Test.YtjdedfbgnakooaaDoorMskP
import Derived.Test.YtjdedfbgnakooaaDoorMskL
import Derived.Test.YtjdedfbgnakooaaDoorPost
namespace Go.Proofs.YtjdedfbgnakooaaDoor.maskBack
open Go.ChangeShapes Go.WideShapes Go.ChangeAt Go.RowKit Mk

theorem rise (x k : Nat) (h : k + 1 < (cpus x).length) : (ints (cpus x)).getD k 0 < (ints (cpus x)).getD (k + 1) 0 := by
  have hs := List.pairwise_iff_getElem.1 (cpus_rise x) k (k + 1) (by omega) h (by omega)
  have e1 : (ints (cpus x)).getD k 0 = ((cpus x)[k] : Nat) := by simp [ints, show k < (cpus x).length by omega]
  have e2 : (ints (cpus x)).getD (k + 1) 0 = ((cpus x)[k + 1] : Nat) := by simp [ints, h]
  rw [e1, e2]; omega

set_option maxRecDepth 100000 in
set_option maxHeartbeats 4000000 in
theorem walk (a0 : Int) (w0 : (Lit.int .u64 a0).wf = true) (w : World) (hT : Tab w) :
    Calls Tryd.prog 5 #[.int .u64 a0] w fun e w' => e = .returned (.bool true) ∧ Below w.heap.size w w' := by
  obtain ⟨m, rfl, hm⟩ := V_of_wf w0
  have HT := Lib.hid hT
  have HM := Lib.hid hm
  have HL := Lib.hid (ints_length (cpus m))
  have hl : (cpus m).length ≤ 64 := cpus_le _
  have HR := Lib.hid (rise m)
  have HO := Lib.hid (of_list m hm)
  have H2 := Lib.hid (of_twice m hm)
  have HC : Hid (cnt m = (cpus m).length) := rfl
  have HW := Lib.hid (ints_wf m)
  have HW2 : Hid (∀ z ∈ [] ++ ints (cpus m) ++ ints (cpus m), (Lit.int .i64 z).wf = true) := fun z hz => by
    rcases List.mem_append.1 hz with h | h
    · exact HW.out z (by simpa using h)
    · exact HW.out z h
  clear hT w0 hm
  go_enter Tryd.func5, Tryd.ntmps5
  go_wp2_with fail
  refine (awake_any _ HT.out).mono ?_
  rintro e' w_b1 ⟨rfl, b1⟩
  go_wp2_with fail
  refine (list_own m HM.out _ (HT.out.below b1)).mono ?_
  rintro e' w2 ⟨v, rfl, hI, b2⟩
  have B2 := Lib.hid (bOn b1 b2)
  clear b1 b2
  generalize ints (cpus m) = zs at *
  generalize (cpus m).length = n at *
  have I2 := Lib.hid hI
  obtain ⟨a, cap, rfl⟩ := hI.form
  rw [HL.out] at I2 ⊢
  clear hI
  obtain ⟨zz, hzz⟩ : ∃ zz, [] ++ zs ++ zs = zz := ⟨_, rfl⟩
  obtain ⟨N, hN⟩ : ∃ N, zz.length = N := ⟨_, rfl⟩
  have HZZ := Lib.hid hzz
  have HNN := Lib.hid hN
  have H3 : Hid (ofM zz = m ∧ ofE zz = 0) := by unfold Hid; rw [← hzz, List.nil_append]; exact H2.out
  rw [hzz] at HW2
  clear hzz hN H2
  go_wp2_with fail
  refine (of_any _ zs _ I2.out).mono ?_
  rintro e' w' ⟨rfl, rfl⟩
  rw [HO.out.1, HO.out.2]
  go_wp2_with (first | (at_builtin; refine wpList_append_ints (k := .i64) (bytes := 8) rfl (.const (.slice none 0 0)) (.tmp 21) 26 rfl w2.heap.size 3 Tryd.underlying26 ints_info (by decide) [] zs (Own.nil _ _ _ _) I2.out (by have := HL.out; simp only [List.length_nil]; omega) (Nat.le_refl _) ?_; intro v3 w3 hown3 hbel3; have I3 := Lib.hid (I2.out.below hbel3); have O3 := Lib.hid hown3; clear hown3) | (at_builtin; refine wpList_append_ints (k := .i64) (bytes := 8) rfl (.tmp 22) (.tmp 23) 26 rfl w2.heap.size 3 Tryd.underlying26 ints_info (by decide) ([] ++ zs) zs O3.out I3.out (by have := HL.out; simp only [List.nil_append]; omega) hbel3.size ?_; intro v4 w4 hown4 hbel4; rw [HZZ.out] at hown4; have I4 := Lib.hid (hown4.ints (fun z hz => HW2.out z hz)); clear hown4; have B4 := Lib.hid (hbel3.trans hbel4); clear hbel3 hbel4; obtain ⟨a4, cap4, rfl⟩ := I4.out.form; rw [HNN.out] at I4 ⊢))
  refine (of_any _ zz _ I4.out).mono ?_
  rintro e' w5 ⟨rfl, rfl⟩
  rw [H3.out.1, H3.out.2]
  have BW := Lib.hid (bOn B2.out B4.out)
  have IW := Lib.hid (I2.out.below B4.out)
  clear I2 I3 I4 O3 B2 B4 HO H3 HZZ HNN HW HW2
  obtain ⟨wo, rfl⟩ : ∃ wo, wo = w4 := ⟨_, rfl⟩
  rcases IW.out.parts with ⟨hnil, _⟩ | ⟨hp, -, b, off, cap', he, hbw, hc⟩
  · obtain rfl : n = 0 := by rw [← HL.out, hnil]; rfl
    clear hnil
    go_wp2
    go_loopw [9] (fun i wr => i = .int .i64 1 ∧ Below w.heap.size w wr) (fun _ _ => 0)
    case atStart => exact ⟨rfl, BW.out⟩
    case round =>
      obtain ⟨rfl, hnx⟩ := hrel
      go_wp2_with fail
      refine (count_any m HM.out _ (HT.out.below hnx)).mono ?_
      rintro e' w_b9 ⟨rfl, b9⟩
      rw [HC.out]
      go_wp2
      go_ret
      exact ⟨rfl, bOn hnx b9⟩
  · rw [HL.out] at hp hc he
    simp only [Value.slice.injEq] at he
    obtain ⟨rfl, -, rfl⟩ := he
    have HCC := Lib.hid hc
    clear hc IW
    go_wp2
    go_loopw [9] (fun i wr => ∃ k : Nat, k + 1 ≤ n ∧ i = .int .i64 ((k : Int) + 1) ∧ Below wo.heap.size wo wr) (fun i _ => n - (intOf i).toNat)
    case atStart => exact ⟨0, by omega, rfl, Below.refl _ _⟩
    case round =>
      obtain ⟨k, hk, rfl, hnx⟩ := hrel
      by_cases hlt : k + 1 < n
      · have hc1 : wr.cell? ⟨b, off + k, none⟩ = some (.int .i64 (zs.getD k 0)) := by rw [hnx.cell (p := ⟨b, off + k, none⟩) hbw]; exact HCC.out k (by omega)
        have hc2 : wr.cell? ⟨b, off + (k + 1), none⟩ = some (.int .i64 (zs.getD (k + 1) 0)) := by rw [hnx.cell (p := ⟨b, off + (k + 1), none⟩) hbw]; exact HCC.out (k + 1) hlt
        have hlt2 := HR.out k hlt
        generalize zs.getD k 0 = z1 at *
        generalize zs.getD (k + 1) 0 = z2 at *
        go_wp2
        go_quiet (fail)
        go_wp2
        exact ⟨⟨k + 1, by omega, by go_num, below_drewN hnx _⟩, by simp [intOf]; omega⟩
      · have B9 := Lib.hid (bOn BW.out hnx)
        obtain rfl : k + 1 = n := by omega
        go_wp2_with fail
        refine (count_any m HM.out _ (HT.out.below B9.out)).mono ?_
        rintro e' w_b9 ⟨rfl, b9⟩
        rw [HC.out]
        go_wp2
        go_ret
        exact ⟨rfl, bOn B9.out b9⟩

theorem met (os : Os) : laidMet Tryd.prog Rows.maskBackRow.laid ((laidWorld os).forCall (fun _ _ => 0) ⟨#[], #[.int .u64 0], []⟩).memory := laidMet_of_run' 8 (by kernel_rfl) (by kernel_rfl)
theorem reads (os : Os) {H : Type} (enc : TypeId × Value → H) : ∃ ps, DataW.whole enc Tryd.prog ((laidWorld os).forCall (fun _ _ => 0) ⟨#[], #[.int .u64 0], []⟩).memory Tryd.f5.params.toList Rows.maskBackSpec.vars false #[Value.int .u64 0].toList 8 = some ([.lit (.int .u64 0)], [], ps) := ⟨[], by kernel_rfl⟩
set_option maxRecDepth 100000 in
theorem lifted (os : Os) (started : os.Started) (H : Type) (enc : TypeId × Value → H) (F : Stop.Interp) :
    ReturnsInHanded {} Tryd.checked os 5 .any ((OpenSpec.ofChange Rows.maskBackSpec).preRow enc Tryd.prog Tryd.f5 Rows.maskBackRow.domain false Rows.maskBackRow.laid) (((OpenSpec.ofChange Rows.maskBackSpec).at F).post enc Tryd.prog Tryd.f5 false true false false) := by
  obtain ⟨ps, hx⟩ := reads os enc
  refine returnsInHanded_of_row (C := Tryd.checked) (s := OpenSpec.ofChange Rows.maskBackSpec) own started (by kernel_rfl) Tryd.func5 (witness_row_at (enc := enc) (C := Tryd.checked) false (laidWorld os) #[.int .u64 0] rfl (by kernel_rfl) (by kernel_rfl) (by kernel_rfl) (OpenSpec.preRow_of_cond 8 hx (by kernel_rfl) (fun k hk => by cases hk) (by kernel_rfl) (met os))) ?_
  intro W base args ds gs before hval0 hW _ _ _ hL _ _
  have hval : ∀ (j : Nat) t v, Tryd.f5.params[j]? = some t → args[j]? = some v → Value.okWide Tryd.prog W .any base t v := hval0
  have hW' := hW
  obtain ⟨p, q, hA0, hV, rfl, -, -⟩ := hW
  have hA : DataW.TrodAll enc Tryd.prog W 0 (fun _ => true) true Tryd.f5.params.toList args.toList ds p := hA0
  rw [Tryd.params5] at hA hval
  obtain ⟨v0, vs0, d0, ds0, p0, q0, hargs, rfl, rfl, h0, r0⟩ := trodAll_cons hA
  obtain ⟨rfl, rfl, rfl⟩ := trodAll_nil r0
  obtain rfl : args = #[v0] := by cases args; simp_all
  obtain ⟨rfl, rfl⟩ := trodVars_none hV
  obtain ⟨a0, rfl, rfl, rfl, w0⟩ := open_int Tryd.underlying22 (hval 0 22 v0 rfl rfl) h0
  clear hA0 hval0
  refine (walk a0 w0 W (tab_laid hL)).mono fun e W' ⟨he, hb⟩ => ?_
  subst he
  exact ⟨_, rfl, post_law laidOut (by kernel_rfl) rfl (by kernel_rfl) Tryd.underlying4 hW' rfl hb⟩

theorem row : Rows.MaskBackSaid :=
  OpenClaim.holds_of_cond 5 Tryd.f5 rfl rfl rfl rfl rfl rfl rfl ⟨rfl, rfl, rfl, rfl, rfl⟩ rfl rfl rfl rfl rfl (by kernel_rfl) Tryd.func5 (by kernel_rfl)
    (of_decide_eq_true (by kernel_rfl)) (by unfold Func.isWrapper; first | (rw [if_pos (by decide +kernel)]; kernel_rfl) | (rw [if_neg (by decide +kernel)]; exact ⟨rfl, rfl⟩))
    (fun os started H enc _ F => by rw [OpenClaim.pre_eq_preRow]; exact lifted os started H enc F)
theorem simple (f : FuncId) (fn : Func) (hf : Tryd.pinned.checked.prog.funcNamed Rows.maskBackRow.func = some f) (hfn : Tryd.pinned.checked.prog.funcs[f]? = some fn) :
    false = Tryd.pinned.checked.prog.looks [] ∧ ∀ (j : Nat) t, fn.params[j]? = some t → Tryd.pinned.checked.prog.wantsStandIn t = false := by
  have e1 : Tryd.prog.funcNamed Rows.maskBackRow.func = some 5 := by kernel_rfl
  cases e1.symm.trans hf
  cases Tryd.func5.symm.trans hfn
  exact ⟨by kernel_rfl, no_stand (P := Tryd.prog) (by kernel_rfl)⟩
/-- **MaskBack**: the given statement, a tied card. -/
theorem proved : Rows.MaskBackCardSaid :=
  Claim7.holds_tied_plain_at .later [] _ _ _ _ row (fun _ h => by cases h) (by kernel_rfl) (fun _ h => by cases h) maskBack_row_tie rfl ⟨rfl, rfl⟩ (by kernel_rfl) rfl simple (by kernel_rfl)

end Go.Proofs.YtjdedfbgnakooaaDoor.maskBack
