/-
  LocksDead returns true at every input, and turns nothing that was there. No condition.
-/
import Derived.Test.YthbabhmpkniliaaLkD
import Derived.Test.YthbabhmpkniliaaPost
namespace Go.Proofs.Ythbabhmpkniliaa.locksDead
open Go.ChangeShapes Go.WideShapes Go.ChangeAt Go.RowKit Lk

set_option maxRecDepth 100000 in
set_option maxHeartbeats 4000000 in
theorem walk (v0 : Value) (zs : List Int) (v1 : Value) (ps : List Int) (v2 : Value) (qs : List Int) (W : World) (h0 : Ints .u16 W v0 zs) (h1 : Ints .u8 W v1 ps) (h2 : Ints .u8 W v2 qs) :
    Calls Try.prog 9 #[v0, v1, v2] W fun e w' => e = .returned (.bool true) ∧ Below W.heap.size W w' := by
  have H0 := Lib.hid h0
  have H1 := Lib.hid h1
  have H2 := Lib.hid h2
  clear h0 h1 h2
  go_enter Try.func9, Try.ntmps9
  go_wp2_with fail
  refine (awake_any W).mono ?_
  rintro e w1 ⟨rfl, hb1⟩
  have HB1 := Lib.hid hb1
  clear hb1
  go_wp2_with fail
  refine (jobs_any (H0.out.below HB1.out)).mono ?_
  rintro e w2 ⟨⟨vj, rfl, hj⟩, hb2⟩
  obtain ⟨aj, cj, rfl⟩ := jbs_shape hj
  have HJ := Lib.hid hj
  have HB2 := Lib.hid (bOn HB1.out hb2)
  obtain ⟨m, hm⟩ : ∃ m, manyF zs = m := ⟨_, rfl⟩
  have HMZ := Lib.hid hm
  have hL : (jobsF zs).length = m := by rw [← hm]; exact jobsF_len zs
  have hML : 2 ≤ m ∧ m ≤ 5 := by rw [← hm]; exact manyF_le zs
  obtain ⟨hm2, hm5⟩ := hML
  rw [hL]
  rw [hL] at HJ
  clear hj hb2 HB1 hm hL
  go_wp2_with fail
  refine (picks_any (H1.out.below HB2.out) (m := m) (by omega)).mono ?_
  rintro e w3 ⟨⟨va, rfl, hp⟩, hb3⟩
  have HA := Lib.hid (hp.ints (fun z hz => i64_wf (by have := picksF_wf (m := m) (by omega) ps z hz; omega)))
  have HJ3 := Lib.hid (HJ.out.below hb3)
  have HB3 := Lib.hid (bOn HB2.out hb3)
  clear hp hb3 HB2 HJ
  go_wp2_with fail
  refine (picks_any (H2.out.below HB3.out) (m := m) (by omega)).mono ?_
  rintro e w4 ⟨⟨vb, rfl, hp⟩, hb4⟩
  have HB := Lib.hid (hp.ints (fun z hz => i64_wf (by have := picksF_wf (m := m) (by omega) qs z hz; omega)))
  have HA4 := Lib.hid (HA.out.below hb4)
  have HJ4 := Lib.hid (HJ3.out.below hb4)
  have HB4 := Lib.hid (bOn HB3.out hb4)
  have HAL : Hid ((picksF m ps).length ≤ 300) := Lib.hid (picksF_len m ps)
  have HBL : Hid ((picksF m qs).length ≤ 300) := Lib.hid (picksF_len m qs)
  have HDK := Lib.hid (fun i => dead_keeps zs (picksF m ps) (picksF m qs) (i := i))
  have HRD := Lib.hid (runD false (picksF m qs) (playS 6 (jobsF zs) false (picksF m ps)))
  have hIa := play6_inv zs false (picksF m ps)
  have hIb := play6_inv zs false (picksF m ps ++ picksF m qs)
  rw [HMZ.out] at hIa hIb
  have HIa := Lib.hid hIa
  have HIb := Lib.hid hIb
  rw [show runF false (playS 6 (jobsF zs) false (picksF m ps)) (picksF m qs) = playS 6 (jobsF zs) false (picksF m ps ++ picksF m qs) from (runF_append _ _ _ _).symm] at HRD
  have HPb := Lib.hid (fun (W : World) (vj vp : Value) (hj : Jbs W vj (jobsF zs)) (hp : Ints .i64 W vp (picksF m ps ++ picksF m qs)) => Play_any (n := 6) (o := false) hj hp (by rw [List.length_append]; have := HAL.out; have := HBL.out; omega))
  rw [play6_e] at HPb
  have HPL := Play_any (n := 6) (o := false) HJ4.out HA4.out (by have := HAL.out; omega)
  rw [play6_e] at HPL
  generalize picksF m ps = A at HA4 HAL HDK HRD HIa HIb HPL HPb
  generalize picksF m qs = B at HB HBL HDK HRD HIb HPb
  generalize playS 6 (jobsF zs) false A = sa at HPL HDK HRD HIa
  generalize playS 6 (jobsF zs) false (A ++ B) = sb at HPb HDK HRD HIb
  clear hp hb4 HB3 HA HJ3 hIa hIb
  go_wp2_with fail
  refine HPL.mono ?_
  rintro e w5 ⟨⟨vl, vw, vd, rfl, hb, hw, hd⟩, hb5⟩
  rw [if_pos rfl] at hb hw hd
  obtain ⟨ab, cb, rfl⟩ := ints_shape hb
  have hg5 := hb5.alloc hb5.size (.cells #[.slice ab sa.b.length cb] 24)
  have hg6 := (Below.refl w5.heap.size w5).alloc (Nat.le_refl _) (.cells #[.slice ab sa.b.length cb] 24)
  have HA6 := Lib.hid (HA4.out.below hg5)
  have HB6 := Lib.hid (HB.out.below hg5)
  have HJ6 := Lib.hid (HJ4.out.below hg5)
  have HW6 := Lib.hid (hw.below hg6)
  have HD6 := Lib.hid (hd.below hg6)
  have HB60 := Lib.hid (bOn HB4.out hg5)
  clear HPL hb hw hd hb5 hg5 hg6 HA4 HB HJ4 HB4
  go_wp2_with (first
    | (at_builtin; refine wpList_append_ints (k := .i64) (bytes := 8) rfl (.const (.slice none 0 0)) (.tmp 51) 22 rfl _ 3 Try.underlying22 ints_info (by decide) [] A (Own.nil _ _ _ _) HA6.out (by have := HAL.out; simp only [List.length_nil]; omega) (Nat.le_refl _) ?_; intro v7 w7 hO7 hb7; have HB7 := Lib.hid hb7)
    | (at_builtin; refine wpList_append_ints (k := .i64) (bytes := 8) rfl (.tmp 52) (.tmp 53) 22 rfl _ 3 Try.underlying22 ints_info (by decide) ([] ++ A) B hO7 (HB6.out.below HB7.out) (by have := HAL.out; have := HBL.out; simp only [List.nil_append]; omega) HB7.out.size ?_; intro v8 w8 hO8 hb8; have HB8 := Lib.hid (HB7.out.trans hb8); have HO8 := Lib.hid hO8))
  have HI8 := HO8.out.ints (fun z hz => by
    rw [List.nil_append] at hz
    rcases List.mem_append.1 hz with h | h
    · exact HA6.out.wf z h
    · exact HB6.out.wf z h)
  rw [List.nil_append] at HI8
  refine (HPb.out w8 _ _ (HJ6.out.below HB8.out) HI8).mono ?_
  rintro e w9 ⟨⟨vl2, vv, ve, rfl, hb, hw, hd⟩, hb9⟩
  rw [if_pos rfl] at hb hw hd
  obtain ⟨ab2, cb2, rfl⟩ := ints_shape hb
  have hg9 := (HB8.out.trans (hb9.mono HB8.out.size)).alloc (by have := HB8.out.size; have := hb9.size; omega) (.cells #[.slice ab2 sb.b.length cb2] 24)
  have hg10 := (Below.refl w9.heap.size w9).alloc (Nat.le_refl _) (.cells #[.slice ab2 sb.b.length cb2] 24)
  have HW10 := Lib.hid (HW6.out.below hg9)
  have HD10 := Lib.hid (HD6.out.below hg9)
  have HV10 := Lib.hid (hw.below hg10)
  have HE10 := Lib.hid (hd.below hg10)
  have HB10 := Lib.hid (bOn HB60.out hg9)
  clear hb hw hd hb9 hg9 hg10 HI8 HO8 hO7 hb7 hb8 hO8 HJ6 HPb HA6 HB6 HB60 HW6 HD6
  go_wp2_with fail
  generalize w9.alloc (.cells #[.slice ab2 sb.b.length cb2] 24) = w10 at HW10 HD10 HV10 HE10 HB10 ⊢
  have stk : ∀ (t : St), Lk.Inv 6 m false t → stuckE (waitF false t) = 0 ∧ stuckR (waitF false t) = deadL (waitF false t) m := fun t ht => by
    have hE : stuckE (waitF false t) = 0 := by
      unfold stuckE
      rw [if_neg (by rw [waitF_len ht]; omega), if_pos ht.okW]
    refine ⟨hE, ?_⟩
    unfold stuckR
    rw [if_pos hE]
    show deadL _ (waitF false t).length = _
    rw [waitF_len ht]
  have HS := stuck_any HW10.out (allP_ok HIa.out (by omega))
  unfold Stuckd at HS
  rw [(stk sa HIa.out).1, (stk sa HIa.out).2] at HS
  refine HS.mono ?_
  rintro e w11 ⟨⟨vs, rfl, hs⟩, hb11⟩
  obtain ⟨a5, c5, rfl⟩ := ints_shape hs
  have HS11 := Lib.hid hs
  have HB11 := Lib.hid hb11
  have HT := stuck_any (HV10.out.below HB11.out) (allP_ok HIb.out (by omega))
  unfold Stuckd at HT
  rw [(stk sb HIb.out).1, (stk sb HIb.out).2] at HT
  replace HT := Lib.hid HT
  clear HS hs hb11 stk
  go_wp2_with fail
  refine HT.out.mono ?_
  rintro e w12 ⟨⟨vt, rfl, ht⟩, hb12⟩
  obtain ⟨a6, c6, rfl⟩ := ints_shape ht
  have hg := HB11.out.trans (hb12.mono HB11.out.size)
  have HT12 := Lib.hid ht
  have HS12 := Lib.hid (HS11.out.below hb12)
  have hW12 := HW10.out.below hg
  have hV12 := HV10.out.below hg
  have hD12 := HD10.out.below hg
  have hE12 := HE10.out.below hg
  have HB12 := Lib.hid (bOn HB10.out hg)
  obtain ⟨aw, cw, rfl, hws⟩ := hW12.parts
  obtain ⟨av, cv, rfl, hvs⟩ := hV12.parts
  obtain ⟨ad, cd, rfl⟩ := ints_shape hD12
  obtain ⟨ae, ce, rfl⟩ := ints_shape hE12
  rw [waitF_len HIa.out] at hws ⊢
  rw [waitF_len HIb.out] at hvs ⊢
  rcases hws with hnil | ⟨bw, ow, rfl, hbw, hcw⟩
  · have := waitF_len HIa.out; rw [hnil] at this; simp at this; omega
  rcases hvs with hnil | ⟨bv, ov, rfl, hbv, hcv⟩
  · have := waitF_len HIb.out; rw [hnil] at this; simp at this; omega
  have HCW : Hid (∀ X, Below w12.heap.size w12 X → ∀ i, i < m → ∃ u, X.cell? ⟨bw, ow + i * 2, none⟩ = some u ∧ Ints .i64 X u (sa.h i) ∧ X.cell? ⟨bw, ow + i * 2 + 1, none⟩ = some (.int .i64 (wantsF false (sa.l i) (sa.h i)))) := Lib.hid (fun X hX i hi => by
    obtain ⟨u, x1, x2, x3⟩ := hcw i hi
    have e1 : (waitF false sa).getD i wE = (sa.h i, wantsF false (sa.l i) (sa.h i)) := by unfold waitF; simp [List.getD, HIa.out.lL, hi]
    rw [e1] at x2 x3
    exact ⟨u, (hX.cell (World.block_lt_of_cell? w12 _ x1)).trans x1, x2.below hX, (hX.cell (World.block_lt_of_cell? w12 _ x3)).trans x3⟩)
  have HCV : Hid (∀ X, Below w12.heap.size w12 X → ∀ i, i < m → ∃ u, X.cell? ⟨bv, ov + i * 2, none⟩ = some u ∧ Ints .i64 X u (sb.h i) ∧ X.cell? ⟨bv, ov + i * 2 + 1, none⟩ = some (.int .i64 (wantsF false (sb.l i) (sb.h i)))) := Lib.hid (fun X hX i hi => by
    obtain ⟨u, x1, x2, x3⟩ := hcv i hi
    have e1 : (waitF false sb).getD i wE = (sb.h i, wantsF false (sb.l i) (sb.h i)) := by unfold waitF; simp [List.getD, HIb.out.lL, hi]
    rw [e1] at x2 x3
    exact ⟨u, (hX.cell (World.block_lt_of_cell? w12 _ x1)).trans x1, x2.below hX, (hX.cell (World.block_lt_of_cell? w12 _ x3)).trans x3⟩)
  have HE12 := Lib.hid hE12
  obtain ⟨E0, hE0⟩ := HRD.out
  obtain ⟨na, hna⟩ : ∃ na, sa.D.length = na := ⟨_, rfl⟩
  obtain ⟨nb, hnb⟩ : ∃ nb, sb.D.length = nb := ⟨_, rfl⟩
  have hab : na ≤ nb := by rw [← hna, ← hnb, hE0, List.length_append]; omega
  have hnbm : nb ≤ 9223372036854775807 := by
    obtain ⟨_, _, _, h2, _⟩ := HE12.out
    rw [← hnb]
    unfold maxLen at h2
    omega
  rw [hna, hnb]
  have HNA := Lib.hid hna
  have HNB := Lib.hid hnb
  have hdl : decide ((nb : Int) < (na : Int)) = false := decide_eq_false (by omega)
  have hdl2 : decide (nb < na) = false := decide_eq_false (by omega)
  have HNS : Hid ((deadL (waitF false sa) m).length ≤ 5) := Lib.hid (by have := deadL_len (waitF false sa) m; omega)
  have HNT : Hid ((deadL (waitF false sb) m).length ≤ 5) := Lib.hid (by have := deadL_len (waitF false sb) m; omega)
  have HMS : Hid (∀ z ∈ deadL (waitF false sa) m, ∃ k : Nat, z = k ∧ k < m ∧ Dead (waitF false sa) k) := Lib.hid (fun z hz => mem_deadL.1 hz)
  have HMT : Hid (∀ k : Nat, k < m → Dead (waitF false sb) k → (k : Int) ∈ deadL (waitF false sb) m) := Lib.hid (fun k hk hd => mem_deadL.2 ⟨k, rfl, hk, hd⟩)
  generalize deadL (waitF false sa) m = ls at HS12 HNS HMS ⊢
  generalize deadL (waitF false sb) m = lt at HT12 HNT HMT ⊢
  obtain ⟨ns, hns⟩ : ∃ ns, ls.length = ns := ⟨_, rfl⟩
  obtain ⟨nt, hnt⟩ : ∃ nt, lt.length = nt := ⟨_, rfl⟩
  have hns5 : ns ≤ 5 := by rw [← hns]; exact HNS.out
  have hnt5 : nt ≤ 5 := by rw [← hnt]; exact HNT.out
  rw [hns] at HS12 ⊢
  rw [hnt] at HT12 ⊢
  have HXS := Lib.hid hns
  have HXT := Lib.hid hnt
  clear ht hb12 hg hW12 hV12 hD12 hE12 hcw hcv hna hnb hns hnt HT HS11 HB11 HW10 HD10 HV10 HE10 HB10 hbw hbv hE0 E0
  go_wp2
  go_loopw [23] (fun u wr => ∃ i : Nat, i ≤ ns ∧ u = .int .i64 i ∧ Hid (Below w12.heap.size w12 wr)) (fun u _ => ns - (intOf u).toNat)
  case atStart => exact ⟨0, by omega, rfl, Lib.hid (Below.refl _ _)⟩
  case round =>
    obtain ⟨i, hi, rfl, HR⟩ := hrel
    obtain ⟨w0, rfl⟩ : ∃ w0, w0 = wr := ⟨_, rfl⟩
    by_cases hlt : i < ns
    · rcases (HS12.out.below HR.out).parts with ⟨e, -⟩ | ⟨-, -, bs, os, cs, e, hbs, hcs⟩
      · have := HXS.out; rw [e] at this; simp at this; omega
      obtain rfl : a5 = some ⟨bs, os, none⟩ := by simp only [Value.slice.injEq] at e; exact e.1
      have ck := hcs i (by rw [HXS.out]; exact hlt)
      obtain ⟨k, hk, hkm, hkd⟩ := HMS.out (ls.getD i 0) (by have := HXS.out; simp [List.getD, show i < ls.length by omega])
      rw [hk] at ck
      obtain ⟨hd1, hd2, hd3, E1, hE1, hE2⟩ := HDK.out k hkd
      have HKT := Lib.hid (HMT.out k hkm hd1)
      have HIT := Lib.hid (HT12.out.below HR.out)
      have HEE := Lib.hid hE1
      have HE2 := Lib.hid hE2
      clear hcs e hk hkd hd1 hE1 hE2
      go_wp2
      go_loopw [25, 26] (fun x u wq => ∃ j : Nat, j ≤ nt ∧ u = .int .i64 j ∧ x = .bool (decide ((k : Int) ∈ lt.take j)) ∧ w0 = wq) (fun _ u _ => nt - (intOf u).toNat)
      case atStart => exact ⟨0, by omega, rfl, by simp, rfl⟩
      case round =>
        obtain ⟨j, hj, rfl, rfl, rfl⟩ := hrel
        by_cases hlj : j < nt
        · rcases HIT.out.parts with ⟨e, -⟩ | ⟨-, -, bt, ot, c9, e, hbt, hct⟩
          · have := HXT.out; rw [e] at this; simp at this; omega
          obtain rfl : a6 = some ⟨bt, ot, none⟩ := by simp only [Value.slice.injEq] at e; exact e.1
          have cj2 := hct j (by rw [HXT.out]; exact hlj)
          obtain ⟨z, hz⟩ : ∃ z, lt.getD j 0 = z := ⟨_, rfl⟩
          rw [hz] at cj2
          have HTK : Hid (lt.take (j + 1) = lt.take j ++ [z]) := Lib.hid (by
            have h1 := HXT.out
            rw [List.take_succ_eq_append_getElem (show j < lt.length by omega), ← hz]
            simp [List.getD, show j < lt.length by omega])
          clear hct e hz
          by_cases hin : (k : Int) ∈ lt.take j
          · have hdi : decide ((k : Int) ∈ lt.take j) = true := decide_eq_true hin
            have HN : Hid (decide ((k : Int) ∈ lt.take (j + 1)) = true) := Lib.hid (decide_eq_true (by rw [HTK.out]; exact List.mem_append_left _ hin))
            rw [hdi]
            clear hin hdi
            go_wp2
            exact ⟨⟨j + 1, by omega, by go_num, by rw [HN.out], trivial⟩, by simp [intOf]; omega⟩
          · have hdi : decide ((k : Int) ∈ lt.take j) = false := decide_eq_false hin
            rw [hdi]
            by_cases hzk : z = k
            · have HN : Hid (decide ((k : Int) ∈ lt.take (j + 1)) = true) := Lib.hid (decide_eq_true (by rw [HTK.out, hzk]; simp))
              have hz1 : (z == (k : Int)) = true := by simp [hzk]
              clear hin hdi hzk
              go_wp2
              exact ⟨⟨j + 1, by omega, by go_num, by rw [HN.out], trivial⟩, by simp [intOf]; omega⟩
            · have HN : Hid (decide ((k : Int) ∈ lt.take (j + 1)) = false) := Lib.hid (decide_eq_false (by
                rw [HTK.out]; intro h
                rcases List.mem_append.1 h with h | h
                · exact hin h
                · simp at h; exact hzk h.symm))
              have hz1 : (z == (k : Int)) = false := by simp [hzk]
              clear hin hdi hzk
              go_wp2
              exact ⟨⟨j + 1, by omega, by go_num, by rw [HN.out], trivial⟩, by simp [intOf]; omega⟩
        · obtain rfl : j = nt := by omega
          have hdi : decide ((k : Int) ∈ lt.take j) = true := decide_eq_true (by rw [List.take_of_length_le (by rw [HXT.out]; exact Nat.le_refl _)]; exact HKT.out)
          rw [hdi]
          clear hdi
          obtain ⟨uw, x1, x2, x3⟩ := HCW.out _ HR.out k hkm
          obtain ⟨uv, y1, y2, y3⟩ := HCV.out _ HR.out k hkm
          rw [hd2] at y2
          rw [hd2, hd3] at y3
          generalize wantsF false (sa.l k) (sa.h k) = wt at x3 y3
          have hne : (wt != wt) = false := by simp
          have HX := Lib.hid (And.intro x1 (And.intro x3 (And.intro y1 y3)))
          have HXI := Lib.hid (And.intro x2 y2)
          have HSX : Hid (∀ X, Below w0.heap.size w0 X → (X.cell? ⟨bw, ow + k * 2, none⟩ = some uw ∧ X.cell? ⟨bw, ow + k * 2 + 1, none⟩ = some (.int .i64 wt) ∧ X.cell? ⟨bv, ov + k * 2, none⟩ = some uv ∧ X.cell? ⟨bv, ov + k * 2 + 1, none⟩ = some (.int .i64 wt))) := Lib.hid (fun X hX =>
            ⟨(hX.cell (World.block_lt_of_cell? w0 _ HX.out.1)).trans HX.out.1, (hX.cell (World.block_lt_of_cell? w0 _ HX.out.2.1)).trans HX.out.2.1, (hX.cell (World.block_lt_of_cell? w0 _ HX.out.2.2.1)).trans HX.out.2.2.1, (hX.cell (World.block_lt_of_cell? w0 _ HX.out.2.2.2)).trans HX.out.2.2.2⟩)
          have HBZ : Hid (Below w0.heap.size w0 w0) := Lib.hid (Below.refl _ _)
          have HBD : Hid (Below w0.heap.size w0 w0.drew) := Lib.hid (Below.refl _ _).drew
          clear x2 y2 hd2 hd3
          go_wp2_with fail
          go_region_held3 (fun X => X.cell? ⟨bw, ow + k * 2, none⟩ = some uw ∧ X.cell? ⟨bw, ow + k * 2 + 1, none⟩ = some (.int .i64 wt) ∧ X.cell? ⟨bv, ov + k * 2, none⟩ = some uv ∧ X.cell? ⟨bv, ov + k * 2 + 1, none⟩ = some (.int .i64 wt))
            (first
              | exact HSX.out _ HBZ.out
              | exact HSX.out _ HBD.out
              | exact HSX.out _ HB13.out
              | go_keep)
            (first
              | (go_at_call 19; refine (rints_same _ _ (sa.h k) _ (HXI.out.2.below HBD.out) (HXI.out.1.below HBD.out)).mono ?_; rintro e' w13 ⟨rfl, hb13⟩; have HB13 := Lib.hid (HBD.out.trans hb13)))
          have HB14 := Lib.hid (HR.out.trans (HB13.out.mono HR.out.size))
          have HE14 := Lib.hid (HE12.out.below HB14.out)
          clear hb13 x1 x3 y1 y3 hne
          go_wp2
          go_loopw [27] (fun u wq => ∃ q : Nat, na ≤ q ∧ q ≤ nb ∧ u = .int .i64 q ∧ w13 = wq) (fun u _ => nb - (intOf u).toNat)
          case atStart => exact ⟨na, Nat.le_refl _, hab, rfl, rfl⟩
          case round =>
            obtain ⟨q, hq1, hq2, rfl, rfl⟩ := hrel
            by_cases hlq : q < nb
            · rcases HE14.out.parts with ⟨e, -⟩ | ⟨-, -, be, oe, c9, e, hbe, hce⟩
              · have := HNB.out; rw [e] at this; simp at this; omega
              obtain rfl : ae = some ⟨be, oe, none⟩ := by simp only [Value.slice.injEq] at e; exact e.1
              have c1 := hce q (by rw [HNB.out]; exact hlq)
              obtain ⟨z, hz⟩ : ∃ z, sb.D.getD q 0 = z := ⟨_, rfl⟩
              rw [hz] at c1
              have hzk : z ≠ k := by
                refine HE2.out z ?_
                have h1 := HNB.out
                have h2 := HNA.out
                rw [HEE.out] at hz h1
                rw [← hz]
                rw [List.length_append] at h1
                simp only [List.getD]
                rw [List.getElem?_append_right (by omega), List.getElem?_eq_getElem (by omega)]
                exact List.getElem_mem _
              have hz1 : (z == (k : Int)) = false := by simp [hzk]
              clear hce e hz hzk
              go_wp2
              exact ⟨⟨q + 1, by omega, by omega, by go_num, trivial⟩, by simp [intOf]; omega⟩
            · obtain rfl : q = nb := by omega
              go_wp2
              exact ⟨⟨i + 1, by omega, by go_num, HB14⟩, by simp [intOf]; omega⟩
    · obtain rfl : i = ns := by omega
      go_wp2
      go_ret
      exact ⟨rfl, bOn HB12.out HR.out⟩

set_option maxRecDepth 100000 in
theorem lifted (os : Os) (started : os.Started) (H : Type) (enc : TypeId × Value → H) :
    ReturnsInHanded {} Try.checked os 9 .any (Rows.locksDeadSpec.pre6 enc Try.prog Try.f9 Rows.locksDeadRow.domain false) (Rows.locksDeadSpec.post enc Try.prog Try.f9 false true false false) := by
  refine returnsInHanded_of_change (C := Try.checked) own started (by kernel_rfl) Try.func9
    (ChangeSpec.witness6 (enc := enc) (C := Try.checked) false ⟨#[], #[.slice none 0 0, .slice none 0 0, .slice none 0 0], []⟩ 8 (by kernel_rfl) (by kernel_rfl) (by kernel_rfl) (by kernel_rfl)) ?_
  intro W base args ds gs before hval0 hW _ _
  have hval : ∀ (j : Nat) t v, Try.f9.params[j]? = some t → args[j]? = some v → Value.okWide Try.prog W .any base t v := hval0
  have hW' := hW
  obtain ⟨p, q, hA0, hV, rfl, -, -⟩ := hW
  have hA : DataW.TrodAll enc Try.prog W 0 (fun _ => true) true Try.f9.params.toList args.toList ds p := hA0
  rw [Try.params9] at hA hval
  obtain ⟨v0, vs0, d0, ds0, p0, q0, hargs, rfl, rfl, h0, r0⟩ := trodAll_cons hA
  obtain ⟨v1, vs1, d1, ds1, p1, q1, rfl, rfl, rfl, h1, r1⟩ := trodAll_cons r0
  obtain ⟨v2, vs2, d2, ds2, p2, q2, rfl, rfl, rfl, h2, r2⟩ := trodAll_cons r1
  obtain ⟨rfl, rfl, rfl⟩ := trodAll_nil r2
  obtain rfl : args = #[v0, v1, v2] := by cases args; simp_all
  obtain ⟨rfl, rfl⟩ := trodVars_none hV
  obtain ⟨a0, w0⟩ := ints_arg Try.underlying46 Try.underlying74 (by kernel_rfl) (hval 0 46 v0 rfl rfl) h0
  obtain ⟨a1, w1⟩ := ints_arg Try.underlying47 Try.underlying5 (by kernel_rfl) (hval 1 47 v1 rfl rfl) h1
  obtain ⟨a2, w2⟩ := ints_arg Try.underlying47 Try.underlying5 (by kernel_rfl) (hval 2 47 v2 rfl rfl) h2
  clear hA0 hval0
  refine (walk v0 a0 v1 a1 v2 a2 W w0 w1 w2).mono fun e W' ⟨he, hb⟩ => ?_
  subst he
  exact ⟨_, rfl, post_law laidOut (by kernel_rfl) rfl (by kernel_rfl) Try.underlying4 hW' rfl hb⟩

/-- **LocksDead**: the given statement. -/
theorem proved : Rows.LocksDeadSaid :=
  OpenClaim.holds_of_wide 9 Try.f9 rfl rfl rfl rfl rfl rfl rfl ⟨rfl, rfl, rfl, rfl, rfl⟩ rfl rfl rfl rfl rfl (by kernel_rfl) Try.func9 (by kernel_rfl)
    (of_decide_eq_true (by kernel_rfl)) (by unfold Func.isWrapper; first | (rw [if_pos (by decide +kernel)]; kernel_rfl) | (rw [if_neg (by decide +kernel)]; exact ⟨rfl, rfl⟩))
    (fun os started H enc _ => lifted os started H enc)
end Go.Proofs.Ythbabhmpkniliaa.locksDead
