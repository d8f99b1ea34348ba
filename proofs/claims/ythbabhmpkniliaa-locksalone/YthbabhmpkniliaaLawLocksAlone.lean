/-
  LocksAlone returns true at every input, and turns nothing that was there. No condition.
-/
import Derived.Test.YthbabhmpkniliaaLkF
import Derived.Test.YthbabhmpkniliaaPost
namespace Go.Proofs.Ythbabhmpkniliaa.locksAlone
open Go.ChangeShapes Go.WideShapes Go.ChangeAt Go.RowKit Lk

/-- How many locks the first i have. -/
def upS (s : St) (i : Nat) : Nat := sumLen (s.H.take i)
theorem upS_succ {s : St} {i : Nat} (h : i < s.H.length) : upS s (i + 1) = upS s i + (s.h i).length := by
  unfold upS sumLen
  rw [List.take_succ_eq_append_getElem h, List.map_append, List.sum_append]
  simp [St.h, List.getD, h]
theorem upS_le {N m : Nat} {o : Bool} {s : St} (h : Inv N m o s) : ∀ i, i ≤ m → upS s i ≤ 2 * i := by
  intro i
  induction i with
  | zero => intro _; simp [upS, sumLen]
  | succ i ih =>
    intro hi
    rw [upS_succ (by rw [h.lH]; omega)]
    have := ih (by omega)
    have := holds_two h i
    omega
theorem upS_all {N m : Nat} {o : Bool} {s : St} (h : Inv N m o s) : upS s m = cntB s.b := by
  unfold upS; rw [← h.lH, List.take_length, h.cnt]
/-- How many of the first y somebody has. -/
def upB (s : St) (y : Nat) : Nat := cntB (s.b.take y)
theorem upB_succ {s : St} {y : Nat} (h : y < s.b.length) : upB s (y + 1) = upB s y + (if 0 ≤ s.b.getD y 0 then 1 else 0) := by
  unfold upB cntB
  rw [List.take_succ_eq_append_getElem h, List.countP_append]
  simp only [List.countP_cons, List.countP_nil, decide_eq_true_eq, List.getD, List.getElem?_eq_getElem h, Option.getD_some]
  omega
theorem upB_le {s : St} (y : Nat) : upB s y ≤ cntB s.b := by
  unfold upB cntB
  exact List.Sublist.countP_le (List.take_sublist _ _)

set_option maxRecDepth 100000 in
set_option maxHeartbeats 4000000 in
theorem walk (v0 : Value) (zs : List Int) (o : Bool) (v1 : Value) (ps : List Int) (W : World) (h0 : Ints .u16 W v0 zs) (h1 : Ints .u8 W v1 ps) :
    Calls Try.prog 8 #[v0, .bool o, v1] W fun e w' => e = .returned (.bool true) ∧ Below W.heap.size W w' := by
  have H0 := Lib.hid h0
  have H1 := Lib.hid h1
  clear h0 h1
  go_enter Try.func8, Try.ntmps8
  go_wp2_with fail
  refine (awake_any W).mono ?_
  rintro e w1 ⟨rfl, hb1⟩
  have HB1 := Lib.hid hb1
  clear hb1
  go_wp2_with fail
  refine (jobs_any (H0.out.below HB1.out)).mono ?_
  rintro e w2 ⟨⟨vj, rfl, hj⟩, hb2⟩
  obtain ⟨aj, cj, rfl⟩ := jbs_shape hj
  have HJ := Lib.hid hj
  have HB2 := Lib.hid (bOn HB1.out hb2)
  obtain ⟨m, hm⟩ : ∃ m, manyF zs = m := ⟨_, rfl⟩
  have HMZ := Lib.hid hm
  have hL : (jobsF zs).length = m := by rw [← hm]; exact jobsF_len zs
  have hML : 2 ≤ m ∧ m ≤ 5 := by rw [← hm]; exact manyF_le zs
  obtain ⟨hm2, hm5⟩ := hML
  rw [hL]
  rw [hL] at HJ
  clear hj hb2 HB1 hm hL
  go_wp2_with fail
  refine (picks_any (H1.out.below HB2.out) (m := m) (by omega)).mono ?_
  rintro e w3 ⟨⟨vp, rfl, hp⟩, hb3⟩
  have HP := Lib.hid (hp.ints (fun z hz => i64_wf (by have := picksF_wf (m := m) (by omega) ps z hz; omega)))
  have HJ3 := Lib.hid (HJ.out.below hb3)
  have HB3 := Lib.hid (bOn HB2.out hb3)
  clear hp hb3 HB2 HJ
  go_wp2_with fail
  have HPL := Play_any (n := 6) (o := o) HJ3.out HP.out (by have := picksF_len m ps; omega)
  rw [play6_e] at HPL
  have HI := play6_inv zs o (picksF m ps)
  rw [HMZ.out] at HI
  replace HI := Lib.hid HI
  generalize playS 6 (jobsF zs) o (picksF m ps) = s at HPL HI
  refine HPL.mono ?_
  rintro e w4 ⟨⟨vb, vw, vd, rfl, hb, hw, hd⟩, hb4⟩
  rw [if_pos rfl] at hb hw hd
  obtain ⟨ab, cb, rfl⟩ := ints_shape hb
  have hlb : s.b.length = 6 := HI.out.lb
  rw [hlb] at hb ⊢
  have HB4 := Lib.hid (bOn HB3.out hb4)
  have HB5 := Lib.hid (HB4.out.alloc HB4.out.size (.cells #[.slice ab 6 cb] 24))
  have hw5 := hw.below ((Below.refl w4.heap.size w4).alloc (Nat.le_refl _) (.cells #[.slice ab 6 cb] 24))
  have hv5 := hb.below ((Below.refl w4.heap.size w4).alloc (Nat.le_refl _) (.cells #[.slice ab 6 cb] 24))
  obtain ⟨aw, cw, rfl, hws⟩ := hw5.parts
  rw [waitF_len HI.out] at hws ⊢
  have hc0 := (at_new w4 (.slice ab 6 cb) 24).1
  clear HPL hw hd hb hb4 HJ3 HP HB3 HB4 hw5 hlb
  rcases hws with hnil | ⟨bw, ow, rfl, hbw, hcw⟩
  · have := waitF_len HI.out; rw [hnil] at this; simp at this; omega
  rcases hv5.parts with ⟨e, -⟩ | ⟨-, -, bb, ob, cb2, e, hbb, hcb⟩
  · have := HI.out.lb; rw [e] at this; simp at this
  obtain ⟨rfl⟩ : ab = some ⟨bb, ob, none⟩ := by simp only [Value.slice.injEq] at e; exact e.1
  have HCW : Hid (∀ i, i < m → ∃ (a : Option Addr) (c : Nat), (w4.alloc (.cells #[.slice (some ⟨bb, ob, none⟩) 6 cb] 24)).cell? ⟨bw, ow + i * 2, none⟩ = some (.slice a (s.h i).length c) ∧ Ints .i64 (w4.alloc (.cells #[.slice (some ⟨bb, ob, none⟩) 6 cb] 24)) (.slice a (s.h i).length c) (s.h i) ∧
      (w4.alloc (.cells #[.slice (some ⟨bb, ob, none⟩) 6 cb] 24)).cell? ⟨bw, ow + i * 2 + 1, none⟩ = some (.int .i64 (wantsF o (s.l i) (s.h i)))) := Lib.hid (fun i hi => by
    obtain ⟨u, x1, x2, x3⟩ := hcw i hi
    have e1 : (waitF o s).getD i wE = (s.h i, wantsF o (s.l i) (s.h i)) := by unfold waitF; simp [List.getD, HI.out.lL, hi]
    rw [e1] at x2 x3
    obtain ⟨a, c, rfl⟩ := ints_shape x2
    exact ⟨a, c, x1, x2, x3⟩)
  have HCB : Hid (∀ y, y < 6 → (w4.alloc (.cells #[.slice (some ⟨bb, ob, none⟩) 6 cb] 24)).cell? ⟨bb, ob + y, none⟩ = some (.int .i64 (s.b.getD y 0))) := Lib.hid (fun y hy => hcb y (by rw [HI.out.lb]; exact hy))
  clear hcw hcb hv5 e hbw hbb
  go_wp2_with fail
  generalize w4.alloc (.cells #[.slice (some ⟨bb, ob, none⟩) 6 cb] 24) = w5 at HB5 HCW HCB hc0 ⊢
  have HHH : Hid (s.H.length = m) := Lib.hid HI.out.lH
  have HBL : Hid (s.b.length = 6) := Lib.hid HI.out.lb
  go_loopw [13, 14] (fun x u wr => ∃ i : Nat, i ≤ m ∧ u = .int .i64 i ∧ x = .int .i64 (upS s i) ∧ w5 = wr) (fun _ u _ => m - (intOf u).toNat)
  case atStart => exact ⟨0, by omega, rfl, rfl, rfl⟩
  case round =>
    obtain ⟨i, hi, rfl, rfl, rfl⟩ := hrel
    by_cases hlt : i < m
    · obtain ⟨ai, ci, hx1, hx2, hx3⟩ := HCW.out i hlt
      have HX2 := Lib.hid hx2
      have HU : Hid (upS s (i + 1) = upS s i + (s.h i).length) := Lib.hid (upS_succ (by rw [HHH.out]; exact hlt))
      have hup : upS s i ≤ 10 := by have := upS_le HI.out i hi; omega
      have h2 : (s.h i).length ≤ 2 := holds_two HI.out i
      obtain ⟨nh, hnh⟩ : ∃ nh, (s.h i).length = nh := ⟨_, rfl⟩
      obtain ⟨n0, hn0⟩ : ∃ n0, upS s i = n0 := ⟨_, rfl⟩
      rw [hnh] at hx1 h2 HX2 HU
      rw [hn0] at hup HU
      have HN := Lib.hid hnh
      rw [hn0]
      clear hx2 hnh hn0
      go_wp2
      go_loopw [13, 15] (fun x u wr => ∃ q : Nat, q ≤ nh ∧ u = .int .i64 q ∧ x = .int .i64 ((n0 + q : Nat) : Int) ∧ w5 = wr) (fun _ u _ => nh - (intOf u).toNat)
      case atStart => exact ⟨0, by omega, rfl, rfl, rfl⟩
      case round =>
        obtain ⟨q, hq, rfl, rfl, rfl⟩ := hrel
        by_cases hlq : q < nh
        · rcases HX2.out.parts with ⟨e, -⟩ | ⟨-, -, b, off, c, e, hbl, hcc⟩
          · have := HN.out; rw [e] at this; simp at this; omega
          obtain rfl : ai = some ⟨b, off, none⟩ := by simp only [Value.slice.injEq] at e; exact e.1
          have c1 := hcc q (by rw [HN.out]; exact hlq)
          obtain ⟨y, hy, hyn, hyb⟩ := HI.out.own i hlt ((s.h i).getD q 0) (by have := HN.out; simp [List.getD, show q < (s.h i).length by omega])
          rw [hy] at c1
          have c2 := HCB.out y hyn
          rw [hyb] at c2
          have hwn : wantsF o (s.l i) (s.h i) ≠ y := by
            have := HI.out.okW.2 i (by rw [waitF_len HI.out]; exact hlt)
            obtain ⟨e1, e2⟩ := waitF_at HI.out hlt
            rw [e1, e2] at this
            intro e3
            refine this ?_
            rw [e3, ← hy]
            have := HN.out
            simp [List.getD, show q < (s.h i).length by omega]
          have hd1 : decide ((y : Int) < 0) = false := decide_eq_false (by omega)
          have hd2 : decide ((y : Int) > 5) = false := decide_eq_false (by omega)
          have hd3 : ((i : Int) != (i : Int)) = false := by simp
          have hd4 : ((y : Int) == wantsF o (s.l i) (s.h i)) = false := by simp; exact fun e => hwn e.symm
          have HYN := Lib.hid hyn
          clear hcc e hy hyb
          go_wp2
          exact ⟨⟨q + 1, by omega, by go_num, by go_num, trivial⟩, by simp [intOf]; omega⟩
        · obtain rfl : q = nh := by omega
          go_wp2
          exact ⟨⟨i + 1, by omega, by go_num, by rw [HU.out], trivial⟩, by simp [intOf]; omega⟩
    · obtain rfl : i = m := by omega
      have HU := Lib.hid (upS_all HI.out)
      rw [HU.out]
      have hcb : cntB s.b ≤ 10 := by rw [← upS_all HI.out]; have := upS_le HI.out i (Nat.le_refl _); omega
      obtain ⟨nb, hnb⟩ : ∃ nb, cntB s.b = nb := ⟨_, rfl⟩
      rw [hnb] at hcb ⊢
      have HNB := Lib.hid hnb
      clear hnb HU
      go_wp2
      go_loopw [13, 17] (fun x u wr => ∃ y : Nat, y ≤ 6 ∧ u = .int .i64 y ∧ (∃ r : Nat, r ≤ nb ∧ x = .int .i64 r ∧ Hid (r + upB s y = nb)) ∧ w5 = wr) (fun _ u _ => 6 - (intOf u).toNat)
      case atStart => exact ⟨0, by omega, rfl, ⟨nb, Nat.le_refl _, rfl, Lib.hid (by simp [upB, cntB])⟩, rfl⟩
      case round =>
        obtain ⟨y, hy, rfl, ⟨r, hr, rfl, HR⟩, rfl⟩ := hrel
        by_cases hly : y < 6
        · have c1 := HCB.out y hly
          have HUB : Hid (upB s (y + 1) = upB s y + (if 0 ≤ s.b.getD y 0 then 1 else 0)) := Lib.hid (upB_succ (by rw [HBL.out]; exact hly))
          have HLE : Hid (upB s (y + 1) ≤ nb) := Lib.hid (by rw [← HNB.out]; exact upB_le _)
          generalize s.b.getD y 0 = z at c1 HUB
          have hd5 : decide ((y : Int) < 6) = true := decide_eq_true (by omega)
          by_cases hz : 0 ≤ z
          · have hd : decide (z ≥ 0) = true := decide_eq_true hz
            have HUB2 : Hid (upB s (y + 1) = upB s y + 1) := Lib.hid (by rw [HUB.out, if_pos hz])
            have hr1 : 1 ≤ r := by have := HUB2.out; have := HLE.out; have := HR.out; omega
            go_wp2
            exact ⟨⟨y + 1, by omega, by go_num, ⟨r - 1, by omega, by go_num, Lib.hid (by have := HUB2.out; have := HR.out; omega)⟩, trivial⟩, by simp [intOf]; omega⟩
          · have hd : decide (z ≥ 0) = false := decide_eq_false hz
            have HUB2 : Hid (upB s (y + 1) = upB s y) := Lib.hid (by rw [HUB.out, if_neg hz]; omega)
            go_wp2
            exact ⟨⟨y + 1, by omega, by go_num, ⟨r, hr, rfl, Lib.hid (by have := HUB2.out; have := HR.out; omega)⟩, trivial⟩, by simp [intOf]; omega⟩
        · obtain rfl : y = 6 := by omega
          have hd5 : decide (((6 : Nat) : Int) < 6) = false := by decide
          have hr0 : r = 0 := by
            have h1 := HR.out
            have h2 := HNB.out
            have h3 : upB s 6 = cntB s.b := by unfold upB; rw [List.take_of_length_le (by rw [HBL.out]; exact Nat.le_refl _)]
            omega
          subst hr0
          go_wp2
          go_ret
          exact ⟨rfl, HB5.out⟩

set_option maxRecDepth 100000 in
theorem lifted (os : Os) (started : os.Started) (H : Type) (enc : TypeId × Value → H) :
    ReturnsInHanded {} Try.checked os 8 .any (Rows.locksAloneSpec.pre6 enc Try.prog Try.f8 Rows.locksAloneRow.domain false) (Rows.locksAloneSpec.post enc Try.prog Try.f8 false true false false) := by
  refine returnsInHanded_of_change (C := Try.checked) own started (by kernel_rfl) Try.func8
    (ChangeSpec.witness6 (enc := enc) (C := Try.checked) false ⟨#[], #[.slice none 0 0, .bool false, .slice none 0 0], []⟩ 8 (by kernel_rfl) (by kernel_rfl) (by kernel_rfl) (by kernel_rfl)) ?_
  intro W base args ds gs before hval0 hW _ _
  have hval : ∀ (j : Nat) t v, Try.f8.params[j]? = some t → args[j]? = some v → Value.okWide Try.prog W .any base t v := hval0
  have hW' := hW
  obtain ⟨p, q, hA0, hV, rfl, -, -⟩ := hW
  have hA : DataW.TrodAll enc Try.prog W 0 (fun _ => true) true Try.f8.params.toList args.toList ds p := hA0
  rw [Try.params8] at hA hval
  obtain ⟨v0, vs0, d0, ds0, p0, q0, hargs, rfl, rfl, h0, r0⟩ := trodAll_cons hA
  obtain ⟨v1, vs1, d1, ds1, p1, q1, rfl, rfl, rfl, h1, r1⟩ := trodAll_cons r0
  obtain ⟨v2, vs2, d2, ds2, p2, q2, rfl, rfl, rfl, h2, r2⟩ := trodAll_cons r1
  obtain ⟨rfl, rfl, rfl⟩ := trodAll_nil r2
  obtain rfl : args = #[v0, v1, v2] := by cases args; simp_all
  obtain ⟨rfl, rfl⟩ := trodVars_none hV
  obtain ⟨a0, w0⟩ := ints_arg Try.underlying46 Try.underlying74 (by kernel_rfl) (hval 0 46 v0 rfl rfl) h0
  obtain ⟨a1, rfl, rfl, rfl⟩ := open_bool Try.underlying4 (hval 1 4 v1 rfl rfl) h1
  obtain ⟨a2, w2⟩ := ints_arg Try.underlying47 Try.underlying5 (by kernel_rfl) (hval 2 47 v2 rfl rfl) h2
  clear hA0 hval0
  refine (walk v0 a0 a1 v2 a2 W w0 w2).mono fun e W' ⟨he, hb⟩ => ?_
  subst he
  exact ⟨_, rfl, post_law laidOut (by kernel_rfl) rfl (by kernel_rfl) Try.underlying4 hW' rfl hb⟩

/-- **LocksAlone**: the given statement. -/
theorem proved : Rows.LocksAloneSaid :=
  OpenClaim.holds_of_wide 8 Try.f8 rfl rfl rfl rfl rfl rfl rfl ⟨rfl, rfl, rfl, rfl, rfl⟩ rfl rfl rfl rfl rfl (by kernel_rfl) Try.func8 (by kernel_rfl)
    (of_decide_eq_true (by kernel_rfl)) (by unfold Func.isWrapper; first | (rw [if_pos (by decide +kernel)]; kernel_rfl) | (rw [if_neg (by decide +kernel)]; exact ⟨rfl, rfl⟩))
    (fun os started H enc _ => lifted os started H enc)
end Go.Proofs.Ythbabhmpkniliaa.locksAlone
