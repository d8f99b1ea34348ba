/-
  SpreadMost returns true at every input, and turns nothing that was there: with a lesser most it is the beginning of the same.
-/
import Derived.Test.YtnjbcblhciblcaaSpW
import Derived.Test.YtnjbcblhciblcaaSpX
import Derived.Test.YtnjbcblhciblcaaPost
namespace Go.Proofs.Ytnjbcblhciblcaa.spreadMost
open Go.ChangeShapes Go.WideShapes Go.ChangeAt Go.RowKit Mk Sp

theorem ints_prefix {k : IntKind} {w : World} {a : Option Addr} {n cap cap' : Nat} {zs : List Int} (h : Ints k w (.slice a n cap) zs) (m : Nat) (hm : m ≤ zs.length) : Ints k w (.slice a m cap') (zs.take m) := by
  obtain ⟨a', c', he, h1, h2, h3⟩ := h
  obtain ⟨rfl, -, -⟩ : a = a' ∧ n = zs.length ∧ cap = c' := by cases he; exact ⟨rfl, rfl, rfl⟩
  have hl : (zs.take m).length = m := by rw [List.length_take]; omega
  refine ⟨a, cap', by rw [hl], by omega, fun z hz => h2 z (List.mem_of_mem_take hz), fun hne => ?_⟩
  have hne' : zs ≠ [] := by intro h; rw [h] at hne; simp at hne
  obtain ⟨b, off, rfl, hc⟩ := h3 hne'
  refine ⟨b, off, rfl, fun i hi => ?_⟩
  rw [hl] at hi
  rw [hc i (by omega)]
  simp [List.getD, hi]
theorem min2_any (a b : Int) (w : World) : Calls Try.prog 20 #[.int .i64 a, .int .i64 b] w fun e w' => e = .returned (.int .i64 (min a b)) ∧ w = w' := by
  by_cases h : a < b
  · have HR : Hid (min a b = a) := by unfold Hid; omega
    go_enter Try.func20, Try.ntmps20
    go_wp2
    go_ret
    exact ⟨by rw [HR.out]; rfl, rfl⟩
  · have HR : Hid (min a b = b) := by unfold Hid; omega
    go_enter Try.func20, Try.ntmps20
    go_wp2
    go_ret
    exact ⟨by rw [HR.out]; rfl, rfl⟩

set_option maxRecDepth 100000 in
set_option maxHeartbeats 8000000 in
theorem walk (v : Value) (zs : List Int) (more most : Int) (w : World) (hv : Ints .u16 w v zs) (hh : (Lit.int .u32 more).wf = true) (hm : (Lit.int .u8 most).wf = true) :
    Calls Try.prog 7 #[v, .int .u32 more, .int .u8 most] w fun e w' => e = .returned (.bool true) ∧ Below w.heap.size w w' := by
  have hh' := bounds_u32 hh
  have hm' := bounds_u8 hm
  have HV := Lib.hid hv
  obtain ⟨a0, cap0, rfl, -, -, -⟩ := hv
  obtain ⟨md, hmd⟩ : ∃ md, more % 400000 = md := ⟨_, rfl⟩
  have hmd2 : 0 ≤ md ∧ md < 400000 := by omega
  obtain ⟨kk, hkk⟩ : ∃ kk : Int, most % 12 = kk := ⟨_, rfl⟩
  have hkk2 : 0 ≤ kk ∧ kk < 12 := by omega
  have hw1 : IntKind.i64.wrap more = more := by rw [IntKind.wrap_i64]; omega
  have hw2 : IntKind.i64.wrap most = most := by rw [IntKind.wrap_i64]; omega
  have hw3 : more.tmod 400000 = md := by rw [Int.tmod_eq_emod_of_nonneg hh'.1]; exact hmd
  have hw4 : most.tmod 12 = kk := by rw [Int.tmod_eq_emod_of_nonneg hm'.1]; exact hkk
  clear hh hm hmd hkk
  have hN : madeN zs ≤ 40 := by unfold madeN; omega
  obtain ⟨N, hNe⟩ : ∃ N, madeN zs = N := ⟨_, rfl⟩
  rw [hNe] at hN
  have HNE := Lib.hid hNe
  clear hNe
  go_enter Try.func7, Try.ntmps7
  go_wp2_with fail
  refine (awake_any _).mono ?_
  rintro e' w_b0 ⟨rfl, b0⟩
  go_wp2_with fail
  refine (made_any _ zs _ (HV.out.below b0)).mono ?_
  rintro e1 w1 ⟨u1, B1, hB1, rfl, ho1, b1⟩
  rw [HNE.out] at ho1
  have hok1 : ∀ c ∈ madeUp zs N, encC.ok c := by
    intro c hc
    obtain ⟨i, hi, rfl⟩ := madeUp_mem hc
    have hwf := HV.out.wf
    have hil : i < zs.length := by have := HNE.out; unfold madeN at this; omega
    have hmem : zs.getD i 0 ∈ zs := by
      have : zs.getD i 0 = zs[i] := by simp [List.getD, hil]
      rw [this]; exact List.getElem_mem hil
    exact mkC_ok i _ (by omega) (bounds_u16 (hwf _ hmem))
  have HC1 : Hid (Cs w1 u1 (madeUp zs N)) := ho1.els hok1
  have B01 := Lib.hid (bOn b0 b1)
  have HG1 := Lib.hid (made_good (to := 0) (h := 0) (t := md) (most := 100) (zs := zs) hN (by omega) (by omega) (by omega) (by omega))
  have HG2 := Lib.hid (made_good (to := 0) (h := 0) (t := md) (most := kk) (zs := zs) hN (by omega) (by omega) (by omega) (by omega))
  have HGW := Lib.hid (planG_wf (to := 0) (h := 0) (t := md) (most := 100) hok1)
  have HGW2 := Lib.hid (planG_wf (to := 0) (h := 0) (t := md) (most := kk) hok1)
  have HGL := Lib.hid (planG_len (to := 0) (h := 0) (t := md) (most := 100) (l := madeUp zs N))
  have HML := Lib.hid (madeUp_len zs N)
  have HPL := Lib.hid (plan_less (to := 0) (h := 0) (t := md) (m := kk) (m' := 100) (c := madeUp zs N) (by omega) hkk2.1)
  clear b0 b1 ho1 hB1 hok1
  generalize madeUp zs N = c at *
  go_wp2_with fail
  refine (plan_any 0 0 md 100 _ c _ HC1.out).mono ?_
  rintro e2 w2 ⟨u2, B2, hB2, rfl, ho2, b2⟩
  rw [HG1.out.1]
  rw [HG1.out.2] at ho2 HGW HGL
  have B02 := Lib.hid (bOn B01.out b2)
  have HC2 := Lib.hid (HC1.out.below b2)
  generalize (planS 0 0 md 100 c).gone = g at *
  have hgl : g.length ≤ 40 := by have := HGL.out; rw [HML.out] at this; omega
  clear b2 hB2 HC1 HG1 B01 HNE HV
  go_wp2_with fail
  refine (plan_any 0 0 md kk _ c _ HC2.out).mono ?_
  rintro e3 w3 ⟨u3, B3, hB3, rfl, ho3, b3⟩
  rw [HG2.out.1]
  rw [HG2.out.2] at ho3 HGW2
  have B03 := Lib.hid (bOn B02.out b3)
  have ho2' := ho2.below b3
  generalize (planS 0 0 md kk c).gone = g2 at *
  obtain ⟨hp1, hp2⟩ := HPL.out
  have HI2 : Hid (Ints .i64 w3 u2 g) := Lib.hid (ho2'.ints HGW.out)
  have HI3 : Hid (Ints .i64 w3 u3 g2) := Lib.hid (ho3.ints HGW2.out)
  obtain ⟨a3, c3, rfl⟩ := own_shape ho3
  have hmn : min kk (g.length : Int) = (g2.length : Int) := hp2.symm
  have hle : g2.length ≤ g.length := by omega
  have htk : Hid (g.take g2.length = g2) := by
    unfold Hid
    by_cases h : (g.length : Int) ≤ kk
    · have e : g2.length = g.length := by omega
      rw [e, List.take_length]
      rw [← hp1]; exact (List.take_of_length_le (by omega)).symm
    · have e : g2.length = kk.toNat := by omega
      rw [e]; exact hp1
  have hpf : Hid (∀ a n cap cap', Ints .i64 w3 (.slice a n cap) g → Ints .i64 w3 (.slice a g2.length cap') g2) := fun a n cap cap' h => by have := ints_prefix (cap' := cap') h g2.length hle; rwa [htk.out] at this
  have HRS := Lib.hid (fun v u h1 h2 => rints_same v u g2 w3 h1 h2)
  obtain ⟨gl, hgle⟩ : ∃ gl, g.length = gl := ⟨_, rfl⟩
  obtain ⟨gl2, hgle2⟩ : ∃ gl2, g2.length = gl2 := ⟨_, rfl⟩
  have hshape : (∃ gb cap, u2 = .slice (some ⟨gb, 0, none⟩) gl cap ∧ gl ≤ cap ∧ cap ≤ maxLen) ∨ (u2 = .slice none 0 0 ∧ gl = 0) := by
    rcases ho2'.2 with ⟨rfl, h0⟩ | ⟨gb, cap, cur, rfl, _, _, hn, hm, _, _⟩
    · exact .inr ⟨rfl, by rw [← hgle]; exact h0⟩
    · exact .inl ⟨gb, cap, by rw [hgle], by rw [← hgle]; exact hn, hm⟩
  rw [hgle, hgle2] at hmn hle
  rw [hgle] at hgl
  rw [hgle2] at hpf HI3 ⊢
  have HMN := Lib.hid hmn
  clear ho2 ho2' ho3 b3 hB3 hp1 hp2 htk hgle hgle2 HPL HG2 HC2 B02 HGW HGW2 HGL HML hmn
  rcases hshape with ⟨gb, cap, rfl, hgc, hcm⟩ | ⟨rfl, rfl⟩
  · have hcm2 : cap ≤ 9223372036854775807 := by unfold maxLen at hcm; omega
    have hlc : gl2 ≤ cap := by omega
    clear hcm
    have HS := Lib.hid (hpf.out (some ⟨gb, 0, none⟩) gl cap cap HI2.out)
    go_wp2_with fail
    refine (min2_any kk gl _).mono ?_
    rintro e4 w4 ⟨rfl, rfl⟩
    rw [HMN.out]
    go_wp2_with fail
    refine (HRS.out _ _ HI3.out HS.out).mono ?_
    rintro e5 w5 ⟨rfl, b5⟩
    go_wp2
    go_ret
    exact ⟨rfl, bOn B03.out b5⟩
  · obtain rfl : gl2 = 0 := by omega
    have HS := Lib.hid (hpf.out none 0 0 0 HI2.out)
    go_wp2_with fail
    refine (min2_any kk 0 _).mono ?_
    rintro e4 w4 ⟨rfl, rfl⟩
    have hz : min kk 0 = 0 := HMN.out
    rw [hz]
    clear hz
    go_wp2_with fail
    refine (HRS.out _ _ HI3.out HS.out).mono ?_
    rintro e5 w5 ⟨rfl, b5⟩
    go_wp2
    go_ret
    exact ⟨rfl, bOn B03.out b5⟩

set_option maxRecDepth 100000 in
theorem lifted (os : Os) (started : os.Started) (H : Type) (enc : TypeId × Value → H) :
    ReturnsInHanded {} Try.checked os 7 .any (Rows.spreadMostSpec.pre6 enc Try.prog Try.f7 Rows.spreadMostRow.domain false) (Rows.spreadMostSpec.post enc Try.prog Try.f7 false true false false) := by
  refine returnsInHanded_of_change (C := Try.checked) own started (by kernel_rfl) Try.func7
    (ChangeSpec.witness6 (enc := enc) (C := Try.checked) false ⟨#[], #[.slice none 0 0, .int .u32 0, .int .u8 0], []⟩ 8 (by kernel_rfl) (by kernel_rfl) (by kernel_rfl) (by kernel_rfl)) ?_
  intro W base args ds gs before hval0 hW _ _
  have hval : ∀ (j : Nat) t v, Try.f7.params[j]? = some t → args[j]? = some v → Value.okWide Try.prog W .any base t v := hval0
  have hW' := hW
  obtain ⟨p, q, hA0, hV, rfl, -, -⟩ := hW
  have hA : DataW.TrodAll enc Try.prog W 0 (fun _ => true) true Try.f7.params.toList args.toList ds p := hA0
  rw [Try.params7] at hA hval
  obtain ⟨v0, vs0, d0, ds0, p0, q0, hargs, rfl, rfl, h0, r0⟩ := trodAll_cons hA
  obtain ⟨v1, vs1, d1, ds1, p1, q1, rfl, rfl, rfl, h1, r1⟩ := trodAll_cons r0
  obtain ⟨v2, vs2, d2, ds2, p2, q2, rfl, rfl, rfl, h2, r2⟩ := trodAll_cons r1
  obtain ⟨rfl, rfl, rfl⟩ := trodAll_nil r2
  obtain rfl : args = #[v0, v1, v2] := by cases args; simp_all
  obtain ⟨rfl, rfl⟩ := trodVars_none hV
  obtain ⟨a0, w0⟩ := ints_arg Try.underlying36 Try.underlying53 (by kernel_rfl) (hval 0 36 v0 rfl rfl) h0
  obtain ⟨a1, rfl, rfl, rfl, w1⟩ := open_int Try.underlying37 (hval 1 37 v1 rfl rfl) h1
  obtain ⟨a2, rfl, rfl, rfl, w2⟩ := open_int Try.underlying5 (hval 2 5 v2 rfl rfl) h2
  clear hA0 hval0
  refine (walk v0 a0 a1 a2 W w0 w1 w2).mono fun e W' ⟨he, hb⟩ => ?_
  subst he
  exact ⟨_, rfl, post_law laidOut (by kernel_rfl) rfl (by kernel_rfl) Try.underlying4 hW' rfl hb⟩

/-- **SpreadMost**: the given statement. -/
theorem proved : Rows.SpreadMostSaid :=
  OpenClaim.holds_of_wide 7 Try.f7 rfl rfl rfl rfl rfl rfl rfl ⟨rfl, rfl, rfl, rfl, rfl⟩ rfl rfl rfl rfl rfl (by kernel_rfl) Try.func7 (by kernel_rfl)
    (of_decide_eq_true (by kernel_rfl)) (by unfold Func.isWrapper; first | (rw [if_pos (by decide +kernel)]; kernel_rfl) | (rw [if_neg (by decide +kernel)]; exact ⟨rfl, rfl⟩))
    (fun os started H enc _ => lifted os started H enc)
end Go.Proofs.Ytnjbcblhciblcaa.spreadMost
