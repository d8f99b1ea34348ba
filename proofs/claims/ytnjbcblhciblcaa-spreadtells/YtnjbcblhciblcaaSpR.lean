/-
  Plan of the program, and of the document, of whatever is handed in.
-/
import Derived.Test.YtnjbcblhciblcaaSpP
namespace Go.Proofs.Ytnjbcblhciblcaa
open Go.RowKit Go.Shelf Mk Sp

theorem own_shape {k : IntKind} {w : World} {B : Nat} {e : TypeId} {v : Value} {zs : List Int} (h : Own k w B e v zs) : ∃ a cap, v = .slice a zs.length cap := by
  rcases h.2 with ⟨rfl, h0⟩ | ⟨_, _, _, rfl, _⟩
  · exact ⟨none, 0, by rw [h0]⟩
  · exact ⟨_, _, rfl⟩

/-- **Plan.** -/
theorem plan_any (to h t most : Int) (v : Value) (l : List C) (w : World) (hv : Cs w v l) :
    Calls Try.prog 10 #[.int .i64 to, .int .i64 h, .int .i64 t, v, .int .i64 most] w fun e w' => ∃ u B, w.heap.size ≤ B ∧ e = .returned (.tuple #[u, .int .i64 (planE to h t most l)]) ∧ Own .i64 w' B 3 u (planG to h t most l) ∧ Below w.heap.size w w' := by
  by_cases hl : 64 < l.length
  · obtain ⟨e1, e2⟩ := plan_long (to := to) (h := h) (t := t) (most := most) hl
    rw [e1, e2]
    exact (plan_long_any to h t most v l w hv hl).mono fun e w' hh => ⟨_, w.heap.size, Nat.le_refl _, hh.1, Own.nil _ _ _ _, hh.2⟩
  · cases hb : bad to h t most l with
    | true =>
      obtain ⟨e1, e2⟩ := plan_bad hl hb
      rw [e1, e2]
      exact (plan_bad_any to h t most v l w hv hl hb).mono fun e w' hh => ⟨_, w.heap.size, Nat.le_refl _, hh.1, Own.nil _ _ _ _, hh.2⟩
    | false =>
      obtain ⟨e1, e2⟩ := plan_ok hl hb
      rw [e1, e2]
      exact plan_good_any to h t most v l w hv hl hb

theorem planG_wf {to h t most : Int} {l : List C} (hok : ∀ c ∈ l, encC.ok c) : ∀ z ∈ planG to h t most l, (Lit.int .i64 z).wf = true := by
  unfold planG
  split
  · refine fold_ids (p := fun z => (Lit.int .i64 z).wf = true) _ _ (by simp) (fun c hc => i64_wf (hok c (filt_mem l c hc).1).1)
  · simp
theorem planG_len {to h t most : Int} {l : List C} : (planG to h t most l).length ≤ l.length := by
  unfold planG
  split
  · have := fold_len (most := most) (l.reverse.filter (may to)) ⟨[], h, t⟩
    have h2 := List.length_filter_le (may to) l.reverse
    rw [List.length_reverse] at h2
    unfold planS
    simp only [List.length_nil, Nat.zero_add] at this
    omega
  · simp

/-- The state behind those from the last one on to number k. -/
def vis (to most : Int) (s0 : St) (l : List C) (k : Nat) : St := ((l.drop k).reverse.filter (may to)).foldl (stp most) s0
theorem vis_end (to most : Int) (s0 : St) (l : List C) : vis to most s0 l l.length = s0 := by unfold vis; rw [filt_end]; rfl
theorem vis_yes {to most : Int} {s0 : St} {l : List C} {k : Nat} (hk : k < l.length) (h : may to (l.getD k default) = true) : vis to most s0 l k = stp most (vis to most s0 l (k + 1)) (l.getD k default) := by
  unfold vis; rw [filt_yes l k hk h, List.foldl_append]; rfl
theorem vis_no {to most : Int} {s0 : St} {l : List C} {k : Nat} (hk : k < l.length) (h : may to (l.getD k default) = false) : vis to most s0 l k = vis to most s0 l (k + 1) := by
  unfold vis; rw [filt_no l k hk h]
theorem vis_ok {to most : Int} {s0 : St} {l : List C} {k : Nat} (h : Ok s0) : Ok (vis to most s0 l k) := fold_ok _ _ h
theorem vis_len {to most : Int} {h t : Int} {l : List C} {k : Nat} : (vis to most ⟨[], h, t⟩ l k).gone.length ≤ l.length := by
  have := fold_len (most := most) ((l.drop k).reverse.filter (may to)) ⟨[], h, t⟩
  have h2 := List.length_filter_le (may to) (l.drop k).reverse
  rw [List.length_reverse, List.length_drop] at h2
  unfold vis
  simp only [List.length_nil, Nat.zero_add] at this
  omega

set_option maxHeartbeats 2000000 in
theorem rplan_long_any (to h t most : Int) (v : Value) (l : List C) (w : World) (hv : Cs w v l) (hl : 64 < l.length) :
    Calls Try.prog 11 #[.int .i64 to, .int .i64 h, .int .i64 t, v, .int .i64 most] w fun e w' => e = .returned (.tuple #[.slice none 0 0, .int .i64 2]) ∧ Below w.heap.size w w' := by
  obtain ⟨a, cap, rfl, hlc, hcm⟩ := hv.shape
  have hml : cap ≤ 9223372036854775807 := by unfold maxLen at hcm; omega
  clear hv
  generalize l.length = n at *
  go_enter Try.func11, Try.ntmps11
  go_wp2
  go_ret2
  exact ⟨rfl, Below.refl _ _⟩

/-- What is wrong ahead of the weights. -/
def bad0 (to h t most : Int) : Bool := !(decide (0 ≤ to) && decide (to ≤ 63)) || (!isLd h || (!isLd t || decide (most < 0)))
theorem bad_iff (to h t most : Int) (l : List C) : bad to h t most l = (bad0 to h t most || !l.all wtOk) := by unfold bad bad0; simp [Bool.or_assoc]

set_option maxHeartbeats 2000000 in
theorem rplan_bad_any (to h t most : Int) (v : Value) (l : List C) (w : World) (hv : Cs w v l) (hl : ¬ 64 < l.length) (hb : bad0 to h t most = true) :
    Calls Try.prog 11 #[.int .i64 to, .int .i64 h, .int .i64 t, v, .int .i64 most] w fun e w' => e = .returned (.tuple #[.slice none 0 0, .int .i64 1]) ∧ Below w.heap.size w w' := by
  obtain ⟨a, cap, rfl, hlc, hcm⟩ := hv.shape
  have hml : cap ≤ 9223372036854775807 := by unfold maxLen at hcm; omega
  clear hv
  generalize l.length = n at *
  have hn64 : n ≤ 64 := by omega
  by_cases h0 : to < 0
  · clear hb
    go_enter Try.func11, Try.ntmps11
    go_wp2
    go_ret2
    exact ⟨rfl, Below.refl _ _⟩
  · by_cases h1 : 63 < to
    · clear hb
      go_enter Try.func11, Try.ntmps11
      go_wp2
      go_ret2
      exact ⟨rfl, Below.refl _ _⟩
    · cases h2 : isLd h with
      | false =>
        have H2 := Lib.hid h2
        clear h2 hb
        go_enter Try.func11, Try.ntmps11
        go_wp2_with fail
        refine (rload_any h _).mono ?_
        rintro e' w' ⟨rfl, rfl⟩
        rw [H2.out]
        go_wp2
        go_ret2
        exact ⟨rfl, Below.refl _ _⟩
      | true =>
        have H2 := Lib.hid h2
        cases h3 : isLd t with
        | false =>
          have H3 := Lib.hid h3
          clear h2 h3 hb
          go_enter Try.func11, Try.ntmps11
          go_wp2_with fail
          refine (rload_any h _).mono ?_
          rintro e' w' ⟨rfl, rfl⟩
          rw [H2.out]
          go_wp2_with fail
          refine (rload_any t _).mono ?_
          rintro e' w' ⟨rfl, rfl⟩
          rw [H3.out]
          go_wp2
          go_ret2
          exact ⟨rfl, Below.refl _ _⟩
        | true =>
          have H3 := Lib.hid h3
          have h4 : most < 0 := by
            unfold bad0 at hb
            rw [h2, h3] at hb
            have a1 : decide (0 ≤ to) = true := by simp; omega
            have a2 : decide (to ≤ 63) = true := by simp; omega
            rw [a1, a2] at hb
            simpa using hb
          clear h2 h3 hb
          go_enter Try.func11, Try.ntmps11
          go_wp2_with fail
          refine (rload_any h _).mono ?_
          rintro e' w' ⟨rfl, rfl⟩
          rw [H2.out]
          go_wp2_with fail
          refine (rload_any t _).mono ?_
          rintro e' w' ⟨rfl, rfl⟩
          rw [H3.out]
          go_wp2
          go_ret2
          exact ⟨rfl, Below.refl _ _⟩

theorem planE_ok {to h t most : Int} {l : List C} (hl : ¬ 64 < l.length) (hb : bad0 to h t most = false) (hw : l.all wtOk = true) : planE to h t most l = 0 ∧ planG to h t most l = (planS to h t most l).gone := plan_ok hl (by rw [bad_iff, hb, hw]; rfl)
theorem planE_bad {to h t most : Int} {l : List C} (hl : ¬ 64 < l.length) (hw : l.all wtOk = false) : planE to h t most l = 1 ∧ planG to h t most l = [] := plan_bad hl (by rw [bad_iff, hw]; simp)

set_option maxRecDepth 100000 in
set_option maxHeartbeats 4000000 in
theorem rplan_good_any (to h t most : Int) (v : Value) (l : List C) (w : World) (hv : Cs w v l) (hl : ¬ 64 < l.length) (hb : bad0 to h t most = false) :
    Calls Try.prog 11 #[.int .i64 to, .int .i64 h, .int .i64 t, v, .int .i64 most] w fun e w' => ∃ u, e = .returned (.tuple #[u, .int .i64 (planE to h t most l)]) ∧ Own .i64 w' w.heap.size 3 u (planG to h t most l) ∧ Below w.heap.size w w' := by
  have hb' := hb
  unfold bad0 at hb'
  simp only [Bool.or_eq_false_iff, Bool.not_eq_false', decide_eq_false_iff_not, Bool.and_eq_true, decide_eq_true_eq] at hb'
  obtain ⟨⟨h1, h1'⟩, h2, h3, h4⟩ := hb'
  have H2 := Lib.hid h2
  have H3 := Lib.hid h3
  have hld1 := (isLd_iff _).1 h2
  have hld2 := (isLd_iff _).1 h3
  have hok0 : Ok ⟨[], h, t⟩ := ⟨hld1, hld2⟩
  have HOK0 := Lib.hid hok0
  have HEO := Lib.hid (fun hw => planE_ok (l := l) hl hb hw)
  have HEB := Lib.hid (fun hw => planE_bad (to := to) (h := h) (t := t) (most := most) (l := l) hl hw)
  have HV : Hid (Cs w v l) := hv
  have hoks : Hid (∀ c ∈ l, encC.ok c) := hv.oks
  obtain ⟨a, cap, rfl, hlc, hcm⟩ := hv.shape
  have hml : cap ≤ 9223372036854775807 := by unfold maxLen at hcm; omega
  obtain ⟨n, hn⟩ : ∃ n, l.length = n := ⟨_, rfl⟩
  have HN := Lib.hid hn
  have hcs := Cs.parts hv
  rw [hn] at hl hlc hcs HV ⊢
  have hn64 : n ≤ 64 := by omega
  clear hb hn h2 h3 hcm hok0 hv hld1 hld2
  obtain ⟨pe, hpe⟩ : ∃ pe, planE to h t most l = pe := ⟨_, rfl⟩
  obtain ⟨pg, hpg⟩ : ∃ pg, planG to h t most l = pg := ⟨_, rfl⟩
  rw [hpe, hpg] at HEO ⊢
  rw [hpe, hpg] at HEB
  clear hpe hpg
  go_enter Try.func11, Try.ntmps11
  go_wp2_with fail
  refine (rload_any h _).mono ?_
  rintro e' w' ⟨rfl, rfl⟩
  rw [H2.out]
  go_wp2_with fail
  refine (rload_any t _).mono ?_
  rintro e' w' ⟨rfl, rfl⟩
  rw [H3.out]
  go_wp2
  go_loop [12] (fun i => ∃ k : Nat, k ≤ n ∧ i = .int .i64 k ∧ (l.take k).all wtOk = true) (fun i => n - (intOf i).toNat)
  case atStart => exact ⟨0, by omega, rfl, rfl⟩
  case round =>
    obtain ⟨k, hk, rfl, hall⟩ := hrel
    by_cases hlt : k < n
    · rcases hcs with ⟨h0, -⟩ | ⟨-, b, off, cap', he, -, hbw, hc⟩
      · rw [h0] at HN; exact absurd (show n = 0 from HN.out.symm) (by omega)
      obtain ⟨rfl, -⟩ : a = some ⟨b, off, none⟩ ∧ cap = cap' := by cases he; exact ⟨rfl, rfl⟩
      obtain ⟨c0, c1, c2⟩ := hc k hlt
      have HK : Hid (k < l.length) := by unfold Hid; rw [HN.out]; exact hlt
      have HA := Lib.hid hall
      clear hc hall he
      cases hw : wtOk (l.getD k default) with
      | true =>
        have HS := Lib.hid (wall_step HK.out HA.out hw)
        have hb := (wtOk_iff _).1 hw
        clear hw
        generalize l.getD k default = c at *
        obtain ⟨ci, cw, cm⟩ := c
        simp only at c0 c1 c2 hb
        go_wp2
        exact ⟨⟨k + 1, by omega, by go_num, HS.out⟩, by simp [intOf]; omega⟩
      | false =>
        have HS := Lib.hid (HEB.out (wall_not HK.out hw))
        have hb : ¬ (1 ≤ (l.getD k default).wt ∧ (l.getD k default).wt ≤ 88761) := fun h => by rw [(wtOk_iff _).2 h] at hw; cases hw
        clear hw
        generalize l.getD k default = c at *
        obtain ⟨ci, cw, cm⟩ := c
        simp only at c0 c1 c2 hb
        obtain ⟨rfl, rfl⟩ : pe = 1 ∧ pg = [] := HS.out
        by_cases h5 : cw < 1
        · go_wp2
          go_ret2
          exact ⟨_, rfl, Own.nil _ _ _ _, Below.refl _ _⟩
        · have h6 : 88761 < cw := by omega
          go_wp2
          go_ret2
          exact ⟨_, rfl, Own.nil _ _ _ _, Below.refl _ _⟩
    · obtain rfl : k = n := by omega
      have HS : Hid (l.all wtOk = true) := by unfold Hid; have := hall; rwa [← HN.out, List.take_length] at this
      obtain ⟨rfl, hpg⟩ := HEO.out HS.out
      have HPG : Hid (pg = (vis to most ⟨[], h, t⟩ l 0).gone) := by unfold Hid; rw [hpg]; rfl
      have HVE : Hid (vis to most ⟨[], h, t⟩ l k = ⟨[], h, t⟩) := by unfold Hid; rw [← HN.out]; exact vis_end _ _ _ _
      clear hall hpg HEO HEB
      go_wp2
      go_loopw [1, 2, 13, 14, 15, 16] (fun hh tt u i b1 b2 wr => ∃ (j : Nat) (g : List Int) (sh st : Int), j ≤ k ∧ AtI j i ∧ hh = .int .i64 sh ∧ tt = .int .i64 st ∧ vis to most ⟨[], h, t⟩ l j = ⟨g, sh, st⟩ ∧ Own .i64 wr w.heap.size 3 u g ∧ Below w.heap.size w wr) (fun _ _ _ i _ _ _ => leftI i)
      case atStart => exact ⟨k, [], h, t, Nat.le_refl _, rfl, rfl, rfl, HVE.out, Own.nil _ _ _ _, Below.refl _ _⟩
      case round =>
        obtain ⟨j, g, sh, st, hj, hi, rfl, rfl, hvis, hown, hnx⟩ := hrel
        match j, hj, hi, hvis with
        | 0, hj, hi, hvis =>
          obtain rfl := hi.zero
          have HG : Hid (g = pg) := by unfold Hid; rw [HPG.out, hvis]
          clear hvis hcs
          go_wp2
          go_ret2
          exact ⟨_, rfl, by rw [← HG.out]; exact hown, hnx⟩
        | j + 1, hj, hi, hvis =>
          have hile := hi.left
          obtain rfl := hi.succ
          rcases hcs with ⟨h0, -⟩ | ⟨-, b, off, cap', he, -, hbw, hc⟩
          · rw [h0] at HN; exact absurd (show k = 0 from HN.out.symm) (by omega)
          obtain ⟨rfl, -⟩ : a = some ⟨b, off, none⟩ ∧ cap = cap' := by cases he; exact ⟨rfl, rfl⟩
          obtain ⟨c0, c1, c2⟩ := hc j (by omega)
          rw [← hnx.cell (p := ⟨b, off + j * 3, none⟩) hbw] at c0
          rw [← hnx.cell (p := ⟨b, off + j * 3 + 1, none⟩) hbw] at c1
          rw [← hnx.cell (p := ⟨b, off + j * 3 + 2, none⟩) hbw] at c2
          have hjl : j < l.length := by rw [HN.out]; omega
          have hokc : encC.ok (l.getD j default) := by
            have ec : l.getD j default = l[j] := by simp [List.getD, hjl]
            rw [ec]; exact hoks.out _ (List.getElem_mem hjl)
          have hvy := vis_yes (to := to) (most := most) (s0 := ⟨[], h, t⟩) hjl
          have hvn := vis_no (to := to) (most := most) (s0 := ⟨[], h, t⟩) hjl
          rw [hvis] at hvy hvn
          have hok := vis_ok (to := to) (most := most) (l := l) (k := j + 1) HOK0.out
          rw [hvis] at hok
          have hgl : g.length ≤ 64 := by have := vis_len (to := to) (most := most) (h := h) (t := t) (l := l) (k := j + 1); rw [hvis] at this; rw [HN.out] at this; dsimp only at this; omega
          have hld1 := hok.1
          have hld2 := hok.2
          dsimp only at hld1 hld2
          have HV2 : Hid (V (l.getD j default).m) := hokc.2.2
          have hwi : -9223372036854775808 ≤ (l.getD j default).id ∧ (l.getD j default).id ≤ 9223372036854775807 := hokc.1
          have HM : Hid (may to (l.getD j default) = has (l.getD j default).m to) := rfl
          have HVY := Lib.hid hvy
          have HVN := Lib.hid hvn
          have HOW := Lib.hid hown
          obtain ⟨ua, uc, rfl⟩ := own_shape hown
          have hjk : j < k := by omega
          clear hc he hokc hvy hvn hok hvis hown hjl
          generalize l.getD j default = c at *
          obtain ⟨ci, cw, cm⟩ := c
          simp only at c0 c1 c2 HV2 HM hwi
          cases hmay : has cm to with
          | false =>
            have HX := Lib.hid (HVN.out (HM.out.trans hmay))
            have HMA := Lib.hid hmay
            clear hmay HVY HVN
            go_wp2_with fail
            refine (rhas_any cm HV2.out to _).mono ?_
            rintro e' w' ⟨rfl, rfl⟩
            rw [HMA.out]
            go_wp2_with fail
            refine (rgain_any sh st cw _).mono ?_
            rintro e' w' ⟨rfl, rfl⟩
            generalize gain sh st cw = gg
            go_wp2
            exact ⟨⟨j, g, sh, st, by omega, rfl, rfl, rfl, HX.out, HOW.out, hnx⟩, by simp [leftI, intOf]⟩
          | true =>
            have HX := Lib.hid (HVY.out (HM.out.trans hmay))
            have HMA := Lib.hid hmay
            clear hmay HVY HVN
            cases hg : gain sh st cw with
            | false =>
              have HX2 : Hid (vis to most ⟨[], h, t⟩ l j = ⟨g, sh, st⟩) := HX.out.trans (stp_no hg)
              have HG := Lib.hid hg
              clear hg HX
              go_wp2_with fail
              refine (rhas_any cm HV2.out to _).mono ?_
              rintro e' w' ⟨rfl, rfl⟩
              rw [HMA.out]
              go_wp2_with fail
              refine (rgain_any sh st cw _).mono ?_
              rintro e' w' ⟨rfl, rfl⟩
              rw [HG.out]
              go_wp2
              exact ⟨⟨j, g, sh, st, by omega, rfl, rfl, rfl, HX2.out, HOW.out, hnx⟩, by simp [leftI, intOf]⟩
            | true =>
              have hgi := (gain_iff _ _ _).1 hg
              by_cases hlm : (g.length : Int) < most
              · have HX2 : Hid (vis to most ⟨[], h, t⟩ l j = ⟨g ++ [ci], sh + cw, st - cw⟩) := HX.out.trans (stp_yes hg hlm)
                have HG := Lib.hid hg
                have HI := Lib.hid (ints_new (k := .i64) wr 3 [ci] (by simp [maxLen]) (by intro y hy; simp at hy; subst hy; exact i64_wf hwi))
                have hsz := hnx.size
                clear hg HX
                go_wp2_with fail
                refine (rhas_any cm HV2.out to _).mono ?_
                rintro e' w' ⟨rfl, rfl⟩
                rw [HMA.out]
                go_wp2_with fail
                refine (rgain_any sh st cw _).mono ?_
                rintro e' w' ⟨rfl, rfl⟩
                rw [HG.out]
                go_wp2_with (at_builtin; go_loud (refine wpList_append_ints (k := .i64) (bytes := 8) rfl (.tmp 92) (.tmp 98) 26 rfl w.heap.size 3 Try.underlying26 ints_info (by decide) g [ci] (HOW.out.alloc _) HI.out (by simp only [List.length_cons, List.length_nil]; omega) (by simp; omega) ?_); intro v' w2 hown2 hbel2; have hb12 : Below w.heap.size wr w2 := ((Below.refl _ wr).alloc hsz _).trans hbel2; have d1 := (hb12.cell (p := ⟨b, off + j * 3 + 1, none⟩) hbw).trans c1)
                exact ⟨⟨j, g ++ [ci], sh + cw, st - cw, by omega, rfl, by go_num, by go_num, HX2.out, hown2, hnx.trans hb12⟩, by simp [leftI, intOf]⟩
              · have HX2 : Hid (vis to most ⟨[], h, t⟩ l j = ⟨g, sh, st⟩) := HX.out.trans (stp_full _ hlm)
                have HG := Lib.hid hg
                clear hg HX
                go_wp2_with fail
                refine (rhas_any cm HV2.out to _).mono ?_
                rintro e' w' ⟨rfl, rfl⟩
                rw [HMA.out]
                go_wp2_with fail
                refine (rgain_any sh st cw _).mono ?_
                rintro e' w' ⟨rfl, rfl⟩
                rw [HG.out]
                go_wp2
                exact ⟨⟨j, g, sh, st, by omega, rfl, rfl, rfl, HX2.out, HOW.out, hnx⟩, by simp [leftI, intOf]⟩

/-- **Plan of the document.** -/
theorem rplan_any (to h t most : Int) (v : Value) (l : List C) (w : World) (hv : Cs w v l) :
    Calls Try.prog 11 #[.int .i64 to, .int .i64 h, .int .i64 t, v, .int .i64 most] w fun e w' => ∃ u B, w.heap.size ≤ B ∧ e = .returned (.tuple #[u, .int .i64 (planE to h t most l)]) ∧ Own .i64 w' B 3 u (planG to h t most l) ∧ Below w.heap.size w w' := by
  by_cases hl : 64 < l.length
  · obtain ⟨e1, e2⟩ := plan_long (to := to) (h := h) (t := t) (most := most) hl
    rw [e1, e2]
    exact (rplan_long_any to h t most v l w hv hl).mono fun e w' hh => ⟨_, w.heap.size, Nat.le_refl _, hh.1, Own.nil _ _ _ _, hh.2⟩
  · cases hb : bad0 to h t most with
    | true =>
      obtain ⟨e1, e2⟩ := plan_bad (l := l) hl (by rw [bad_iff, hb]; rfl : bad to h t most l = true)
      rw [e1, e2]
      exact (rplan_bad_any to h t most v l w hv hl hb).mono fun e w' hh => ⟨_, w.heap.size, Nat.le_refl _, hh.1, Own.nil _ _ _ _, hh.2⟩
    | false => exact (rplan_good_any to h t most v l w hv hl hb).mono fun e w' ⟨u, h1, h2, h3⟩ => ⟨u, w.heap.size, Nat.le_refl _, h1, h2, h3⟩
end Go.Proofs.Ytnjbcblhciblcaa
