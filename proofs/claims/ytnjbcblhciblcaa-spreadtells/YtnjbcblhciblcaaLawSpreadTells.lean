/-
  SpreadTells returns true at every input, and turns nothing that was there: who goes, or why it can't be told, and what is a gain, is what the document says.
-/
import Derived.Test.YtnjbcblhciblcaaSpW
import Derived.Test.YtnjbcblhciblcaaSpT
import Derived.Test.YtnjbcblhciblcaaPost
import Derived.Deep.RegionHeld3
namespace Go.Proofs.Ytnjbcblhciblcaa.spreadTells
open Go.ChangeShapes Go.WideShapes Go.ChangeAt Go.RowKit Mk Sp

theorem und {a b : World} (h : Below a.drew.heap.size a.drew b) : Below a.heap.size a b := ⟨h.os, h.tape, h.output, h.size, h.block⟩

set_option maxRecDepth 100000 in
set_option maxHeartbeats 8000000 in
theorem walk (to here there : Int) (v : Value) (l : List C) (most : Int) (w : World) (_ : (Lit.int .i64 to).wf = true) (_ : (Lit.int .i64 here).wf = true) (_ : (Lit.int .i64 there).wf = true) (hv : Cs w v l) (_ : (Lit.int .i64 most).wf = true) :
    Calls Try.prog 3 #[.agg #[.int .i64 to, .int .i64 here, .int .i64 there, v, .int .i64 most]] w fun e w' => e = .returned (.bool true) ∧ Below w.heap.size w w' := by
  have HV := Lib.hid hv
  have hok := hv.oks
  obtain ⟨a, cap, rfl, hlc, hcm⟩ := hv.shape
  have hml : cap ≤ 9223372036854775807 := by unfold maxLen at hcm; omega
  clear hcm hv
  have HGW := Lib.hid (planG_wf (to := to) (h := here) (t := there) (most := most) hok)
  clear hok
  obtain ⟨n, hn⟩ : ∃ n, l.length = n := ⟨_, rfl⟩
  rw [hn] at hlc HV ⊢
  clear hn
  have bx : Below w.heap.size w (w.alloc (.cells #[.int .i64 to, .int .i64 here, .int .i64 there, .slice a n cap, .int .i64 most] 24)) := (Below.refl _ _).alloc (Nat.le_refl _) _
  by_cases hl : 100 < n
  · go_enter Try.func3, Try.ntmps3
    go_wp2_with fail
    refine (awake_any _).mono ?_
    rintro e' w_b1 ⟨rfl, b1⟩
    go_wp2
    go_ret
    exact ⟨rfl, bOn bx b1⟩
  · have hl2 : n ≤ 100 := by omega
    obtain ⟨pe, hpe⟩ : ∃ pe, planE to here there most l = pe := ⟨_, rfl⟩
    obtain ⟨pg, hpg⟩ : ∃ pg, planG to here there most l = pg := ⟨_, rfl⟩
    have HPE := Lib.hid hpe
    have HPG := Lib.hid hpg
    have HP := Lib.hid (fun X h => plan_any to here there most (.slice a n cap) l X h)
    have HR := Lib.hid (fun X h => rplan_any to here there most (.slice a n cap) l X h)
    rw [hpe, hpg] at HP HR
    rw [hpg] at HGW
    clear hpe hpg
    have c0 : ∀ j, j < 5 → (w.alloc (.cells #[.int .i64 to, .int .i64 here, .int .i64 there, .slice a n cap, .int .i64 most] 24)).cell? ⟨w.heap.size, j, none⟩ = #[.int .i64 to, .int .i64 here, .int .i64 there, .slice a n cap, .int .i64 most][j]? := fun j _ => World.cell?_alloc_new _ _ _ _
    have HC0 := Lib.hid c0
    have HBX := Lib.hid bx
    have hlt : w.heap.size < (w.alloc (.cells #[.int .i64 to, .int .i64 here, .int .i64 there, .slice a n cap, .int .i64 most] 24)).heap.size := by simp
    clear c0 bx
    go_enter Try.func3, Try.ntmps3
    go_wp2_with fail
    generalize w.alloc _ = w0 at *
    refine (HP.out _ (HV.out.below HBX.out)).mono ?_
    rintro e1 w1 ⟨u1, B1, hB1, rfl, ho1, b1⟩
    have hc : ∀ j, j < 5 → w1.cell? ⟨w.heap.size, j, none⟩ = #[.int .i64 to, .int .i64 here, .int .i64 there, .slice a n cap, .int .i64 most][j]? := fun j hj => (b1.cell (p := ⟨w.heap.size, j, none⟩) hlt).trans (HC0.out j hj)
    have HC1 := Lib.hid hc
    have hc0 := hc 0 (by decide)
    have hc1 := hc 1 (by decide)
    have hc2 := hc 2 (by decide)
    have hc3 := hc 3 (by decide)
    have hc4 := hc 4 (by decide)
    simp only [List.getElem?_toArray, List.getElem?_cons_zero, List.getElem?_cons_succ] at hc0 hc1 hc2 hc3 hc4
    have HB1 : Hid (Below w.heap.size w w1) := Lib.hid (HBX.out.trans (b1.mono (Nat.le_of_lt hlt)))
    have hlt1 : w.heap.size < w1.heap.size := Nat.lt_of_lt_of_le hlt b1.size
    have HO1 := Lib.hid ho1
    clear hc b1 ho1 hB1 HC0 HBX hlt
    go_wp2_with fail
    refine (HR.out _ (HV.out.below HB1.out)).mono ?_
    rintro e2 w2 ⟨u2, B2, hB2, rfl, ho2, b2⟩
    have hd : ∀ j, j < 5 → w2.cell? ⟨w.heap.size, j, none⟩ = #[.int .i64 to, .int .i64 here, .int .i64 there, .slice a n cap, .int .i64 most][j]? := fun j hj => (b2.cell (p := ⟨w.heap.size, j, none⟩) hlt1).trans (HC1.out j hj)
    have HD := Lib.hid hd
    have HB2 : Hid (Below w.heap.size w w2) := Lib.hid (HB1.out.trans (b2.mono (Nat.le_of_lt hlt1)))
    have hlt2 : w.heap.size < w2.heap.size := Nat.lt_of_lt_of_le hlt1 b2.size
    have I1 : Hid (Ints .i64 w2 u1 pg) := Lib.hid ((HO1.out.below b2).ints HGW.out)
    have I2 : Hid (Ints .i64 w2 u2 pg) := Lib.hid (ho2.ints HGW.out)
    clear hc0 hc1 hc2 hc3 hc4 hd b2 ho2 hB2 HC1 HO1 HP HR HB1
    have hee : ((pe == pe) = true) := by simp
    have hgg : ((gain here there most == gain here there most) = true) := by simp
    go_wp2
    have HSY : Hid (∀ X, Below w2.heap.size w2 X → (X.cell? ⟨w.heap.size, 1, none⟩ = some (.int .i64 here) ∧ X.cell? ⟨w.heap.size, 2, none⟩ = some (.int .i64 there) ∧ X.cell? ⟨w.heap.size, 4, none⟩ = some (.int .i64 most))) := Lib.hid (fun X hX => ⟨(hX.cell (p := ⟨w.heap.size, 1, none⟩) hlt2).trans (HD.out 1 (by decide)), (hX.cell (p := ⟨w.heap.size, 2, none⟩) hlt2).trans (HD.out 2 (by decide)), (hX.cell (p := ⟨w.heap.size, 4, none⟩) hlt2).trans (HD.out 4 (by decide))⟩)
    have HB0 : Hid (Below w2.heap.size w2 w2.drew) := Lib.hid (Below.refl _ w2).drew
    clear HD
    go_region_held3 (fun X => X.cell? ⟨w.heap.size, 1, none⟩ = some (.int .i64 here) ∧ X.cell? ⟨w.heap.size, 2, none⟩ = some (.int .i64 there) ∧ X.cell? ⟨w.heap.size, 4, none⟩ = some (.int .i64 most))
      (first
        | exact HSY.out _ HB0.out
        | exact HSY.out _ (und hb7)
        | exact HSY.out _ (bOn (und hb7) hb8)
        | go_keep)
      (first
        | (go_at_call 9; refine (awake_any _).mono ?_; rintro e' w7 ⟨rfl, hb7⟩)
        | (go_at_call 12; refine (rints_same _ _ pg _ (I1.out.below (und hb7)) (I2.out.below (und hb7))).mono ?_; rintro e' w8 ⟨rfl, hb8⟩)
        | (go_at_call 13; refine (gain_any here there most _).mono ?_; rintro e' w' ⟨rfl, rfl⟩)
        | (go_at_call 14; refine (rgain_any here there most _).mono ?_; rintro e' w' ⟨rfl, rfl⟩))
    all_goals
      have HE := Lib.hid (HB2.out.trans ((bOn (und hb7) hb8).mono HB2.out.size))
      clear hb7 hb8
      go_wp2
      go_ret
      exact ⟨rfl, HE.out⟩

set_option maxRecDepth 100000 in
theorem lifted (os : Os) (started : os.Started) (H : Type) (enc : TypeId × Value → H) :
    ReturnsInHanded {} Try.checked os 3 .any (Rows.spreadTellsSpec.pre6 enc Try.prog Try.f3 Rows.spreadTellsRow.domain false) (Rows.spreadTellsSpec.post enc Try.prog Try.f3 false true false false) := by
  refine returnsInHanded_of_change (C := Try.checked) own started (by kernel_rfl) Try.func3
    (ChangeSpec.witness6 (enc := enc) (C := Try.checked) false ⟨#[], #[.agg #[Value.int .i64 0, Value.int .i64 0, Value.int .i64 0, Value.slice none 0 0, Value.int .i64 0]], []⟩ 8 (by kernel_rfl) (by kernel_rfl) (by kernel_rfl) (by kernel_rfl)) ?_
  intro W base args ds gs before hval0 hW _ _
  have hval : ∀ (j : Nat) t v, Try.f3.params[j]? = some t → args[j]? = some v → Value.okWide Try.prog W .any base t v := hval0
  have hW' := hW
  obtain ⟨p, q, hA0, hV, rfl, -, -⟩ := hW
  have hA : DataW.TrodAll enc Try.prog W 0 (fun _ => true) true Try.f3.params.toList args.toList ds p := hA0
  rw [Try.params3] at hA hval
  obtain ⟨v0, vs0, d0, ds0, p0, q0, hargs, rfl, rfl, h0, r0⟩ := trodAll_cons hA
  obtain ⟨rfl, rfl, rfl⟩ := trodAll_nil r0
  obtain rfl : args = #[v0] := by cases args; simp_all
  obtain ⟨rfl, rfl⟩ := trodVars_none hV
  obtain ⟨cs0, rfl, hl0, hf0⟩ := fields_arg Try.underlying24 (by kernel_rfl) (by kernel_rfl) (hval 0 24 v0 rfl rfl) h0
  obtain ⟨c0_0, c0_1, c0_2, c0_3, c0_4, rfl⟩ := list5 hl0
  obtain ⟨_, _, t0_0⟩ := hf0 0 _ _ rfl rfl
  obtain ⟨a0_0, e0_0, -, w0_0⟩ := DataW.trod_int Try.underlying3 t0_0
  obtain rfl := (List.cons.inj e0_0).1
  obtain ⟨_, _, t0_1⟩ := hf0 1 _ _ rfl rfl
  obtain ⟨a0_1, e0_1, -, w0_1⟩ := DataW.trod_int Try.underlying3 t0_1
  obtain rfl := (List.cons.inj e0_1).1
  obtain ⟨_, _, t0_2⟩ := hf0 2 _ _ rfl rfl
  obtain ⟨a0_2, e0_2, -, w0_2⟩ := DataW.trod_int Try.underlying3 t0_2
  obtain rfl := (List.cons.inj e0_2).1
  obtain ⟨_, _, t0_3⟩ := hf0 3 _ _ rfl rfl
  obtain ⟨a0_3, w0_3⟩ := els_field encC Try.underlying22 Try.underlying41 (by kernel_rfl) (by kernel_rfl) (cand_dec Try.underlying3 Try.underlying3 Try.underlying39) t0_3
  obtain ⟨_, _, t0_4⟩ := hf0 4 _ _ rfl rfl
  obtain ⟨a0_4, e0_4, -, w0_4⟩ := DataW.trod_int Try.underlying3 t0_4
  obtain rfl := (List.cons.inj e0_4).1
  clear hf0 hl0
  clear hA0 hval0
  refine (walk a0_0 a0_1 a0_2 c0_3 a0_3 a0_4 W w0_0 w0_1 w0_2 w0_3 w0_4).mono fun e W' ⟨he, hb⟩ => ?_
  subst he
  exact ⟨_, rfl, post_law laidOut (by kernel_rfl) rfl (by kernel_rfl) Try.underlying4 hW' rfl hb⟩

/-- **SpreadTells**: the given statement. -/
theorem proved : Rows.SpreadTellsSaid :=
  OpenClaim.holds_of_wide 3 Try.f3 rfl rfl rfl rfl rfl rfl rfl ⟨rfl, rfl, rfl, rfl, rfl⟩ rfl rfl rfl rfl rfl (by kernel_rfl) Try.func3 (by kernel_rfl)
    (of_decide_eq_true (by kernel_rfl)) (by unfold Func.isWrapper; first | (rw [if_pos (by decide +kernel)]; kernel_rfl) | (rw [if_neg (by decide +kernel)]; exact ⟨rfl, rfl⟩))
    (fun os started H enc _ => lifted os started H enc)
end Go.Proofs.Ytnjbcblhciblcaa.spreadTells
