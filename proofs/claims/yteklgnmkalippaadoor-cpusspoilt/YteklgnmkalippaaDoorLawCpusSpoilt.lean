/-
  CpusSpoilt: a text with a sign at its end that does not belong there is none; nor is one with a nought ahead of a number.
-/
import Derived.Test.YteklgnmkalippaaDoorCpD
import Derived.Test.YteklgnmkalippaaDoorCpO
import Derived.Test.YteklgnmkalippaaDoorPost
import Derived.Laws.IdiomStrings
import Derived.RangeFuncBox
namespace Go.Proofs.YteklgnmkalippaaDoor.cpusSpoilt
open Go.ChangeShapes Go.WideShapes Go.ChangeAt Go.RowKit Mk Cp

set_option maxRecDepth 100000 in
set_option maxHeartbeats 4000000 in
theorem core_no (m : Nat) (c : Int) (hm : V m) (h : m = 0 ∨ (48 ≤ c ∧ c ≤ 57)) (w : World) (hO : Ok w) :
    Calls Tryd.prog 9 #[.int .u64 m, .int .u8 c] w fun e w' => e = .returned (.bool true) ∧ Below w.heap.size w w' := by
  have HO := Lib.hid hO
  have HM := Lib.hid hm
  clear hO hm
  by_cases h0 : m = 0
  · have q1 : ((m : Int) == 0) = true := by rw [h0]; rfl
    clear h h0
    go_enter Tryd.func9, Tryd.ntmps9
    go_wp2_with fail
    refine (awake_any _ HO.out).mono ?_
    rintro e' w_b1 ⟨rfl, b1⟩
    have O1 := Lib.hid (HO.out.below b1)
    go_wp2_with fail
    refine (print_any m HM.out _ O1.out.1).mono ?_
    rintro e' w_b2 ⟨rfl, b2⟩
    go_wp2
    go_ret
    exact ⟨rfl, bOn b1 b2⟩
  · have q1 : ((m : Int) == 0) = false := by simpa using h0
    obtain ⟨h1, h2⟩ : 48 ≤ c ∧ c ≤ 57 := by rcases h with h | h; exact absurd h h0; exact h
    clear h h0
    go_enter Tryd.func9, Tryd.ntmps9
    go_wp2_with fail
    refine (awake_any _ HO.out).mono ?_
    rintro e' w_b1 ⟨rfl, b1⟩
    have O1 := Lib.hid (HO.out.below b1)
    go_wp2_with fail
    refine (print_any m HM.out _ O1.out.1).mono ?_
    rintro e' w_b2 ⟨rfl, b2⟩
    go_wp2
    go_ret
    exact ⟨rfl, bOn b1 b2⟩

theorem conv_walk (c : UInt8) (k : Int) (hk : k = (c.toNat : Int)) (W : World) :
    (convert 35 9 (.slice (some ⟨W.heap.size, 0, none⟩) 1 1)).run Tryd.prog (W.alloc (.cells #[.int .u8 k] 5)) = .ok (.string (st [c])) (W.alloc (.cells #[.int .u8 k] 5)) := by
  subst hk
  refine run_convert_bytes_back _ _ _ 5 ⟨W.heap.size, 0, none⟩ 1 [c] Tryd.underlying35 Tryd.underlying5 Tryd.underlying9 fun j hj => ?_
  obtain rfl : j = 0 := by simp at hj; omega
  simp [Addr.add]

set_option maxRecDepth 100000 in
set_option maxHeartbeats 4000000 in
theorem core (m : Nat) (c : UInt8) (hm : V m) (h0 : m ≠ 0) (k : Int) (hk : k = (c.toNat : Int)) (h : k < 48 ∨ 57 < k) (w : World) (hO : Ok w) :
    Calls Tryd.prog 9 #[.int .u64 m, .int .u8 k] w fun e w' => e = .returned (.bool true) ∧ Below w.heap.size w w' := by
  have HO := Lib.hid hO
  have HM := Lib.hid hm
  have q1 : ((m : Int) == 0) = false := by simpa using h0
  have hd : isDig c = false := by
    unfold isDig
    rw [hk] at h
    simp
    omega
  have H1 := Lib.hid (parseM_end hm c hd)
  have H2 := Lib.hid (parseM_zero hm h0)
  have hl := print_len hm
  obtain ⟨p, hp⟩ : ∃ p, printL m = p := ⟨_, rfl⟩
  rw [hp] at H1 H2 hl
  have HP := Lib.hid hp
  obtain ⟨n, s1⟩ : ∃ n, (st p).size = n := ⟨_, rfl⟩
  have s2 : 1 ≤ n := by rw [← s1, st_size]; exact hl.1
  have s3 : n ≤ 191 := by rw [← s1, st_size]; exact hl.2
  have s4 : (st [c]).size = 1 := by rw [st_size]; rfl
  have s5 : (st [48]).size = 1 := by rw [st_size]; rfl
  have HE1 : Hid (st p ++ st [c] = st (p ++ [c])) := st_add _ _
  have HE2 : Hid (st [48] ++ st p = st ([48] ++ p)) := st_add _ _
  have e48 : (⟨#[48]⟩ : ByteArray) = st [48] := rfl
  have L1 : Hid ((p ++ [c]).length ≤ 1000000) := by unfold Hid; rw [List.length_append]; simp only [List.length_cons, List.length_nil]; omega
  have L2 : Hid (([48] ++ p).length ≤ 1000000) := by unfold Hid; rw [List.length_append]; simp only [List.length_cons, List.length_nil]; omega
  have hcv := conv_walk c k hk
  clear hO hm h0 hk hd hl hp
  rcases h with h | h
  all_goals (
    go_enter Tryd.func9, Tryd.ntmps9
    go_wp2_with fail
    refine (awake_any _ HO.out).mono ?_
    rintro e1 w1 ⟨rfl, b1⟩
    have O1 := Lib.hid (HO.out.below b1)
    go_wp2_with fail
    refine (print_any m HM.out _ O1.out.1).mono ?_
    rintro e2 w2 ⟨rfl, b2⟩
    have O2 := Lib.hid (O1.out.below b2)
    rw [HP.out]
    go_wp2_with fail
    rw [HE1.out]
    have b3 : Below w2.heap.size w2 (w2.alloc (.cells #[.int .u8 k] 5)) := (Below.refl _ _).alloc (Nat.le_refl _) _
    have O3 := Lib.hid (O2.out.below b3)
    refine (parse_any (p ++ [c]) L1.out _ O3.out.2).mono ?_
    rintro e4 w4 ⟨rfl, b4⟩
    have b34 := Lib.hid (bOn b3 b4)
    have O4 := Lib.hid (O3.out.below b4)
    clear b3 b4 O3
    rw [H1.out.1, H1.out.2]
    go_wp2_with fail
    rw [HE2.out]
    refine (parse_any ([48] ++ p) L2.out _ O4.out.2).mono ?_
    rintro e5 w5 ⟨rfl, b5⟩
    rw [H2.out.1, H2.out.2]
    clear hcv e48
    go_wp2
    all_goals (
      go_ret
      exact ⟨rfl, bOn (bOn (bOn b1 b2) b34.out) b5⟩))

theorem walk (a0 c : Int) (w0 : (Lit.int .u64 a0).wf = true) (w1 : (Lit.int .u8 c).wf = true) (w : World) (hO : Ok w) :
    Calls Tryd.prog 9 #[.int .u64 a0, .int .u8 c] w fun e w' => e = .returned (.bool true) ∧ Below w.heap.size w w' := by
  obtain ⟨m, rfl, hm⟩ := V_of_wf w0
  have hb := bounds_u8 w1
  by_cases h0 : m = 0
  · exact core_no m c hm (.inl h0) w hO
  · by_cases h1 : 48 ≤ c ∧ c ≤ 57
    · exact core_no m c hm (.inr h1) w hO
    · refine core m (UInt8.ofNat c.toNat) hm h0 c ?_ (by omega) w hO
      have : (UInt8.ofNat c.toNat).toNat = c.toNat := by
        rw [UInt8.toNat_ofNat']
        omega
      rw [this]; omega

theorem met (os : Os) : laidMet Tryd.prog Rows.cpusSpoiltRow.laid ((laidWorld os).forCall (fun _ _ => 0) ⟨#[], #[.int .u64 0, .int .u8 0], []⟩).memory := laidMet_of_run' 8 (by kernel_rfl) (by kernel_rfl)
theorem reads (os : Os) {H : Type} (enc : TypeId × Value → H) : ∃ ps, DataW.whole enc Tryd.prog ((laidWorld os).forCall (fun _ _ => 0) ⟨#[], #[.int .u64 0, .int .u8 0], []⟩).memory Tryd.f9.params.toList Rows.cpusSpoiltSpec.vars false #[Value.int .u64 0, Value.int .u8 0].toList 8 = some ([.lit (.int .u64 0), .lit (.int .u8 0)], [], ps) := ⟨[], by kernel_rfl⟩
set_option maxRecDepth 100000 in
theorem lifted (os : Os) (started : os.Started) (H : Type) (enc : TypeId × Value → H) (F : Stop.Interp) :
    ReturnsInHanded {} Tryd.checked os 9 .any ((OpenSpec.ofChange Rows.cpusSpoiltSpec).preRow enc Tryd.prog Tryd.f9 Rows.cpusSpoiltRow.domain false Rows.cpusSpoiltRow.laid) (((OpenSpec.ofChange Rows.cpusSpoiltSpec).at F).post enc Tryd.prog Tryd.f9 false true false false) := by
  obtain ⟨ps, hx⟩ := reads os enc
  refine returnsInHanded_of_row (C := Tryd.checked) (s := OpenSpec.ofChange Rows.cpusSpoiltSpec) own started (by kernel_rfl) Tryd.func9 (witness_row_at (enc := enc) (C := Tryd.checked) false (laidWorld os) #[.int .u64 0, .int .u8 0] rfl (by kernel_rfl) (by kernel_rfl) (by kernel_rfl) (OpenSpec.preRow_of_cond 8 hx (by kernel_rfl) (fun k hk => by cases hk) (by kernel_rfl) (met os))) ?_
  intro W base args ds gs before hval0 hW _ _ _ hL _ _
  have hval : ∀ (j : Nat) t v, Tryd.f9.params[j]? = some t → args[j]? = some v → Value.okWide Tryd.prog W .any base t v := hval0
  have hW' := hW
  obtain ⟨p, q, hA0, hV, rfl, -, -⟩ := hW
  have hA : DataW.TrodAll enc Tryd.prog W 0 (fun _ => true) true Tryd.f9.params.toList args.toList ds p := hA0
  rw [Tryd.params9] at hA hval
  obtain ⟨v0, vs0, d0, ds0, p0, q0, hargs, rfl, rfl, h0, r0⟩ := trodAll_cons hA
  obtain ⟨v1, vs1, d1, ds1, p1, q1, rfl, rfl, rfl, h1, r1⟩ := trodAll_cons r0
  obtain ⟨rfl, rfl, rfl⟩ := trodAll_nil r1
  obtain rfl : args = #[v0, v1] := by cases args; simp_all
  obtain ⟨rfl, rfl⟩ := trodVars_none hV
  obtain ⟨a0, rfl, rfl, rfl, w0⟩ := open_int Tryd.underlying22 (hval 0 22 v0 rfl rfl) h0
  obtain ⟨a1, rfl, rfl, rfl, w1⟩ := open_int Tryd.underlying5 (hval 1 5 v1 rfl rfl) h1
  clear hA0 hval0
  refine (walk a0 a1 w0 w1 W (tab_laid hL)).mono fun e W' ⟨he, hb⟩ => ?_
  subst he
  exact ⟨_, rfl, post_law laidOut (by kernel_rfl) rfl (by kernel_rfl) Tryd.underlying4 hW' rfl hb⟩

theorem row : Rows.CpusSpoiltSaid :=
  OpenClaim.holds_of_cond 9 Tryd.f9 rfl rfl rfl rfl rfl rfl rfl ⟨rfl, rfl, rfl, rfl, rfl⟩ rfl rfl rfl rfl rfl (by kernel_rfl) Tryd.func9 (by kernel_rfl)
    (of_decide_eq_true (by kernel_rfl)) (by unfold Func.isWrapper; first | (rw [if_pos (by decide +kernel)]; kernel_rfl) | (rw [if_neg (by decide +kernel)]; exact ⟨rfl, rfl⟩))
    (fun os started H enc _ F => by rw [OpenClaim.pre_eq_preRow]; exact lifted os started H enc F)
theorem simple (f : FuncId) (fn : Func) (hf : Tryd.pinned.checked.prog.funcNamed Rows.cpusSpoiltRow.func = some f) (hfn : Tryd.pinned.checked.prog.funcs[f]? = some fn) :
    true = Tryd.pinned.checked.prog.looks [] ∧ ∀ (j : Nat) t, fn.params[j]? = some t → Tryd.pinned.checked.prog.wantsStandIn t = false := by
  have e1 : Tryd.prog.funcNamed Rows.cpusSpoiltRow.func = some 9 := by kernel_rfl
  cases e1.symm.trans hf
  cases Tryd.func9.symm.trans hfn
  exact ⟨by kernel_rfl, no_stand (P := Tryd.prog) (by kernel_rfl)⟩
/-- **CpusSpoilt**: the given statement, a tied card. -/
theorem proved : Rows.CpusSpoiltCardSaid :=
  Claim7.holds_tied_plain_at .later [] _ _ _ _ row (fun _ h => by cases h) (by kernel_rfl) (fun _ h => by cases h) cpusSpoilt_row_tie rfl ⟨rfl, rfl⟩ (by kernel_rfl) rfl simple (by kernel_rfl)
end Go.Proofs.YteklgnmkalippaaDoor.cpusSpoilt
