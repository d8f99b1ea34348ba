/-
  Contracts of locks.letGo and locks.Stuck.
-/
import Derived.Test.YthbabhmpkniliaaLkS
namespace Go.Proofs.Ythbabhmpkniliaa
open Go.RowKit Go.ChangeAt Go.ChangeShapes Go.WideShapes Go.Maps Lk

/-- Each one that waits waits for one of the first n. -/
def Nums (n : Nat) (f : Int → Option Int) : Prop := ∀ x y, f x = some y → (0 ≤ x ∧ x < n) ∧ 0 ≤ y ∧ y < n
/-- Nobody waits for one that waits for nobody. -/
def Shut (n : Nat) (f : Int → Option Int) : Prop := ∀ j : Nat, j < n → ∀ y, f j = some y → (f y).isSome = true
/-- What letGo leaves. -/
def Gone (w : World) (b N n s : Nat) (f : Int → Option Int) (w' : World) : Prop :=
  ∃ f' s', Mp w' b N s' f' ∧ Lk.Left f f' ∧ s' ≤ s ∧ (s' = s → f' = f ∧ Shut n f) ∧ w.grownBy w' (some b)

set_option maxHeartbeats 1000000 in
set_option maxRecDepth 100000 in
theorem letGo_any {w : World} {b N s n : Nat} {f : Int → Option Int} (h : Mp w b N s f) (hf : Nums n f) (hn : n ≤ 64) :
    Calls Try.prog 32 #[.map (some b), .int .i64 n] w fun e w' => e = .returned (.tuple #[]) ∧ Gone w b N n s f w' := by
  have HM := Lib.hid h
  have HNU := Lib.hid hf
  clear h hf
  go_enter Try.func32, Try.ntmps32
  go_wp2
  go_loopw [10] (fun u wr => ∃ i : Nat, i ≤ n ∧ u = .int .i64 i ∧ Hid (∃ f' s', Mp wr b N s' f' ∧ Lk.Left f f' ∧ s' ≤ s ∧ (s' = s → f' = f ∧ Shut i f) ∧ w.grownBy wr (some b))) (fun u _ => n - (intOf u).toNat)
  case atStart => exact ⟨0, by omega, rfl, Lib.hid ⟨f, s, HM.out, Lk.Left.refl f, Nat.le_refl _, fun _ => ⟨rfl, fun j hj => absurd hj (Nat.not_lt_zero _)⟩, ⟨rfl, rfl, rfl, Nat.le_refl _, fun _ _ _ => rfl⟩⟩⟩
  case round =>
    obtain ⟨i, hi, rfl, HR⟩ := hrel
    by_cases hlt : i < n
    · obtain ⟨f1, s1, hM, hL, hs, hE, hg⟩ := HR.out
      have HM1 := Lib.hid hM
      have HL := Lib.hid hL
      have HS := Lib.hid hs
      have HE := Lib.hid hE
      have HG := Lib.hid hg
      have HII : Hid (I (i : Int)) := Lib.hid (by unfold I; omega)
      clear hM hL hs hE hg HR HM
      cases hfi : f1 i with
      | none =>
        have HFI := Lib.hid hfi
        clear hfi
        go_wp2_with (at_lookup; refine wpList_look rfl (.tmp 14) (.tmp 15) rfl b _ _ _ i HII.out none HFI.out rfl rfl HM1.out ?_)
        refine ⟨⟨i + 1, by omega, by go_num, Lib.hid ⟨f1, s1, HM1.out, HL.out, HS.out, fun e => ⟨(HE.out e).1, fun j hj y hy => ?_⟩, HG.out⟩⟩, by simp [intOf]; omega⟩
        by_cases e2 : j = i
        · subst e2; have := HFI.out; rw [(HE.out e).1, hy] at this; cases this
        · exact (HE.out e).2 j (by omega) y hy
      | some y =>
        have HFI := Lib.hid hfi
        have hNy := (HNU.out _ _ (HL.out.le _ _ hfi)).2
        have HIY : Hid (I y) := Lib.hid (by unfold I; omega)
        clear hfi
        cases hfy : f1 y with
        | some z =>
          have HFY := Lib.hid hfy
          clear hfy
          go_wp2_with (first
            | (at_lookup; refine wpList_look rfl (.tmp 14) (.tmp 15) rfl b _ _ _ i HII.out (some y) HFI.out rfl rfl HM1.out ?_)
            | (at_lookup; refine wpList_look rfl (.tmp 22) (.tmp 23) rfl b _ _ _ y HIY.out (some z) HFY.out rfl rfl HM1.out ?_))
          refine ⟨⟨i + 1, by omega, by go_num, Lib.hid ⟨f1, s1, HM1.out, HL.out, HS.out, fun e => ⟨(HE.out e).1, fun j hj y' hy' => ?_⟩, HG.out⟩⟩, by simp [intOf]; omega⟩
          by_cases e2 : j = i
          · subst e2
            have h1 := HFI.out
            rw [(HE.out e).1, hy'] at h1
            cases h1
            have h2 := HFY.out
            rw [(HE.out e).1] at h2
            rw [h2]; rfl
          · exact (HE.out e).2 j (by omega) y' hy'
        | none =>
          have HFY := Lib.hid hfy
          clear hfy
          go_wp2_with (first
            | (at_lookup; refine wpList_look rfl (.tmp 14) (.tmp 15) rfl b _ _ _ i HII.out (some y) HFI.out rfl rfl HM1.out ?_)
            | (at_lookup; refine wpList_look rfl (.tmp 22) (.tmp 23) rfl b _ _ _ y HIY.out none HFY.out rfl rfl HM1.out ?_)
            | (at_delete; refine wpList_drop rfl (.tmp 29) (.tmp 30) rfl b _ _ _ i y HII.out HFI.out rfl rfl HM1.out ?_; intro w3 s3 hM3 hs3 hg3))
          refine ⟨⟨i + 1, by omega, by go_num, Lib.hid ⟨_, s3, hM3, HL.out.trans (Lk.Left.del HFI.out HFY.out), by have := HS.out; omega, fun e => by have := HS.out; omega, HG.out.trans hg3⟩⟩, by simp [intOf]; omega⟩
    · obtain rfl : i = n := by omega
      go_wp2
      go_end0
      exact ⟨rfl, HR.out⟩

theorem wf_nums {ws : List Wt} (hok : okW ws) : Nums ws.length (wf ws ws.length) := by
  intro x y e
  unfold wf at e
  split at e
  · next hx =>
    obtain ⟨j, hj, rfl, -⟩ := (hf_all hok.1).1 e
    exact ⟨hx, by omega⟩
  · cases e
theorem left_nums {n : Nat} {f g : Int → Option Int} (h : Lk.Left f g) (hf : Nums n f) : Nums n g := fun x y e => hf x y (h.le x y e)

open Classical in
/-- Those of the first k that are stuck. -/
noncomputable def deadL (ws : List Wt) (k : Nat) : List Int := ((List.range k).filter (fun i => decide (Dead ws i))).map Int.ofNat
theorem deadL_yes {ws : List Wt} {k : Nat} (h : Dead ws k) : deadL ws (k + 1) = deadL ws k ++ [(k : Int)] := by
  unfold deadL; rw [List.range_succ, List.filter_append, List.map_append]; simp [h]
theorem deadL_no {ws : List Wt} {k : Nat} (h : ¬ Dead ws k) : deadL ws (k + 1) = deadL ws k := by
  unfold deadL; rw [List.range_succ, List.filter_append, List.map_append]; simp [h]
theorem deadL_len (ws : List Wt) (k : Nat) : (deadL ws k).length ≤ k := by
  unfold deadL
  rw [List.length_map]
  refine Nat.le_trans (List.length_filter_le _ _) ?_
  simp
theorem deadL_wf (ws : List Wt) {k : Nat} (hk : k ≤ 1000) : ∀ z ∈ deadL ws k, (Lit.int .i64 z).wf = true := by
  intro z hz
  unfold deadL at hz
  obtain ⟨i, hi, rfl⟩ := List.mem_map.1 hz
  have := List.mem_range.1 (List.mem_filter.1 hi).1
  exact i64_wf (by show -9223372036854775808 ≤ (i : Int) ∧ (i : Int) ≤ 9223372036854775807; omega)

/-- What Stuck tells. -/
def Stuckd (W : World) (ws : List Wt) (e : Ending) (w' : World) : Prop :=
  (∃ v', e = .returned (.tuple #[v', .int .i64 (stuckE ws)]) ∧ Ints .i64 w' v' (stuckR ws)) ∧ Below W.heap.size W w'
theorem nil_own (w : World) : Ints .i64 w (.slice none 0 0) [] := ⟨none, 0, rfl, Nat.zero_le _, by simp, fun h => absurd rfl h⟩

set_option maxHeartbeats 2000000 in
set_option maxRecDepth 100000 in
theorem stuck_any {W : World} {v : Value} {ws : List Wt} (h : Wts W v ws) (hP : (allP ws ws.length).length ≤ 100000) : Calls Try.prog 21 #[v] W (Stuckd W ws) := by
  obtain ⟨a, cap, rfl, -⟩ := h.parts
  unfold Stuckd
  by_cases h64 : 64 < ws.length
  · have hE : stuckE ws = 2 := by unfold stuckE; rw [if_pos h64]
    have hR : stuckR ws = [] := by unfold stuckR; rw [if_neg (by rw [hE]; decide)]
    rw [hE, hR]
    have hd : decide ((ws.length : Int) > 64) = true := decide_eq_true (by omega)
    clear h hE hR hP
    go_enter Try.func21, Try.ntmps21
    go_wp2
    go_ret2
    exact ⟨⟨_, rfl, nil_own _⟩, Below.refl _ _⟩
  · have hd : decide ((ws.length : Int) > 64) = false := decide_eq_false (by omega)
    have hn : ws.length ≤ 64 := by omega
    have HWT := Lib.hid (waits_any h hn hP)
    clear h hP
    by_cases hok : okW ws
    · have hE : stuckE ws = 0 := by unfold stuckE; rw [if_neg h64, if_pos hok]
      have hR : stuckR ws = deadL ws ws.length := by unfold stuckR; rw [if_pos hE]; rfl
      rw [hE, hR]
      have HOK := Lib.hid hok
      clear hE hR hok
      go_enter Try.func21, Try.ntmps21
      go_wp2_with fail
      refine HWT.out.mono ?_
      rintro e w1 ⟨⟨-, m, b, rfl, hm, hM, hb⟩ | ⟨hno, -⟩, hb1⟩
      rotate_left
      · exact absurd HOK.out hno
      have HM1 := Lib.hid hM
      have HMM := Lib.hid hm
      have HB := Lib.hid hb
      have HB1 := Lib.hid hb1
      clear hm hM hb hb1
      go_wp2
      go_loopw [6] (fun u wr => ∃ bef : Nat, bef ≤ ws.length + 1 ∧ u = .int .i64 bef ∧ Hid (∃ f s, Mp wr b ws.length s f ∧ Lk.Left (wf ws ws.length) f ∧ s ≤ bef ∧ s ≤ ws.length ∧ (s = bef → Shut ws.length f) ∧ Below W.heap.size W wr)) (fun u _ => (intOf u).toNat)
      case atStart => exact ⟨ws.length + 1, Nat.le_refl _, by go_num, Lib.hid ⟨_, m, HM1.out, Lk.Left.refl _, by have := HMM.out; omega, HMM.out, fun e => by have := HMM.out; omega, HB1.out⟩⟩
      case round =>
        obtain ⟨bef, hbf, rfl, HR⟩ := hrel
        obtain ⟨f, s, hM, hL, hs, hsn, hS, hbl⟩ := HR.out
        have HM := Lib.hid hM
        have HL := Lib.hid hL
        have HSH := Lib.hid hS
        have HBL := Lib.hid hbl
        clear hM hL hS hbl HR HM1 HB1
        by_cases hlt : s < bef
        · have hd3 : decide ((s : Int) < (bef : Int)) = true := decide_eq_true (by omega)
          have HLG := Lib.hid (letGo_any HM.out (left_nums HL.out (wf_nums HOK.out)) hn)
          go_wp2_with (first
            | (at_len; refine wpList_many rfl (.tmp 24) rfl b _ s f rfl HM.out ?_)
            | (at_len; refine wpList_many rfl (.tmp 28) rfl b _ s f rfl HM.out ?_))
          refine HLG.out.mono ?_
          rintro e w3 ⟨rfl, f', s', hM', hL', hs', hE', hg'⟩
          have HM3 := Lib.hid hM'
          have HL3 := Lib.hid hL'
          have HE3 := Lib.hid hE'
          have HG3 := Lib.hid hg'
          clear hM' hL' hE' hg'
          go_wp2
          refine ⟨⟨s, by omega, rfl, Lib.hid ⟨f', s', HM3.out, HL.out.trans HL3.out, hs', by omega, fun e => by rw [(HE3.out e).1]; exact (HE3.out e).2, HBL.out.grown HG3.out HBL.out.size (fun r hr => by cases hr; exact HB.out)⟩⟩, by simp [intOf]; omega⟩
        · have hd3 : decide ((s : Int) < (bef : Int)) = false := decide_eq_false (by omega)
          have HSS : Hid (Shut ws.length f) := Lib.hid (HSH.out (by omega))
          have HDE : Hid (∀ i : Nat, i < ws.length → ((f i).isSome = true ↔ Dead ws i)) := Lib.hid (fun i hi => left_dead HOK.out HL.out (fun x y e => by
            have hN := left_nums HL.out (wf_nums HOK.out) x y e
            have := HSS.out x.toNat (by omega) y (by rw [show ((x.toNat : Nat) : Int) = x by omega]; exact e)
            exact this) i hi)
          go_wp2_with (at_len; refine wpList_many rfl (.tmp 24) rfl b _ s f rfl HM.out ?_)
          obtain ⟨w0, rfl⟩ : ∃ w0, w0 = wr := ⟨_, rfl⟩
          go_loopw [36, 7] (fun u x wq => ∃ i : Nat, i ≤ ws.length ∧ u = .int .i64 i ∧ Hid (Own .i64 wq w0.heap.size 3 x (deadL ws i) ∧ Below w0.heap.size w0 wq)) (fun u _ _ => ws.length - (intOf u).toNat)
          case atStart => exact ⟨0, by omega, rfl, Lib.hid ⟨Own.nil _ _ _ _, Below.refl _ _⟩⟩
          case round =>
            obtain ⟨i, hi, rfl, HX⟩ := hrel
            by_cases hli : i < ws.length
            · obtain ⟨hO, hB⟩ := HX.out
              have HO := Lib.hid hO
              have HBX := Lib.hid hB
              have HMX := Lib.hid (HM.out.below hB)
              have HII : Hid (I (i : Int)) := Lib.hid (by unfold I; omega)
              have HDI := Lib.hid (HDE.out i hli)
              have HDL := Lib.hid (deadL_len ws i)
              clear hO hB HX
              cases hfi : f i with
              | none =>
                have HFI := Lib.hid hfi
                have HN : Hid (deadL ws (i + 1) = deadL ws i) := Lib.hid (deadL_no (fun h => by have := HDI.out.2 h; rw [hfi] at this; cases this))
                clear hfi
                go_wp2_with (at_lookup; refine wpList_look rfl (.tmp 40) (.tmp 41) rfl b _ _ _ i HII.out none HFI.out rfl rfl HMX.out ?_)
                exact ⟨⟨i + 1, by omega, by go_num, Lib.hid ⟨by rw [HN.out]; exact HO.out, HBX.out⟩⟩, by simp [intOf]; omega⟩
              | some y =>
                have HFI := Lib.hid hfi
                have HN : Hid (deadL ws (i + 1) = deadL ws i ++ [(i : Int)]) := Lib.hid (deadL_yes (HDI.out.1 (by rw [hfi]; rfl)))
                have HI1 := Lib.hid (ints_new (k := .i64) wr 3 [(i : Int)] (by simp [maxLen]) (by intro y hy; simp at hy; subst hy; exact i64_wf (by omega)))
                clear hfi
                go_wp2_with (first
                  | (at_lookup; refine wpList_look rfl (.tmp 40) (.tmp 41) rfl b _ _ _ i HII.out (some y) HFI.out rfl rfl HMX.out ?_)
                  | (at_builtin; refine wpList_append_ints (k := .i64) (bytes := 8) rfl (.tmp 46) (.tmp 48) 22 rfl w0.heap.size 3 Try.underlying22 ints_info (by decide) (deadL ws i) [(i : Int)] (HO.out.alloc _) HI1.out (by have := HDL.out; simp only [List.length_cons, List.length_nil]; omega) (by have := HBX.out.size; simp; omega) ?_; intro v' w2 hown2 hbel2))
                have hb2 : Below w0.heap.size w0 w2 := (HBX.out.alloc HBX.out.size _).trans hbel2
                exact ⟨⟨i + 1, by omega, by go_num, Lib.hid ⟨by rw [HN.out]; exact hown2, hb2⟩⟩, by simp [intOf]; omega⟩
            · obtain rfl : i = ws.length := by omega
              go_wp2
              go_ret2
              exact ⟨⟨_, rfl, HX.out.1.ints (deadL_wf ws (by omega))⟩, bOn HBL.out HX.out.2⟩
    · have hE : stuckE ws = 1 := by unfold stuckE; rw [if_neg h64, if_neg hok]
      have hR : stuckR ws = [] := by unfold stuckR; rw [if_neg (by rw [hE]; decide)]
      rw [hE, hR]
      have HNO := Lib.hid hok
      clear hE hR hok
      go_enter Try.func21, Try.ntmps21
      go_wp2_with fail
      refine HWT.out.mono ?_
      rintro e w1 ⟨⟨hok, -⟩ | ⟨-, rfl⟩, hb1⟩
      · exact absurd hok HNO.out
      have HB1 := Lib.hid hb1
      go_wp2
      go_ret2
      exact ⟨⟨_, rfl, nil_own _⟩, HB1.out⟩
end Go.Proofs.Ythbabhmpkniliaa
