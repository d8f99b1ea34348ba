/-
  Contracts of locks.holders and locks.waitsFor.
-/
import Derived.Test.YthbabhmpkniliaaLkK
import Derived.Test.YthbabhmpkniliaaLkR
namespace Go.Proofs.Ythbabhmpkniliaa
open Go.RowKit Go.ChangeAt Go.ChangeShapes Go.WideShapes Go.Maps Lk

/-- What holders tells. -/
def Held (W : World) (ws : List Wt) (e : Ending) (w' : World) : Prop :=
  ((okP (allP ws ws.length) ∧ ∃ m b, e = .returned (.tuple #[.map (some b), .bool true]) ∧ Mp w' b (allP ws ws.length).length m (hf (allP ws ws.length)) ∧ W.heap.size ≤ b) ∨ (¬ okP (allP ws ws.length) ∧ e = .returned (.tuple #[.map none, .bool false]))) ∧ Below W.heap.size W w'
theorem allP_len_le (ws : List Wt) {k n : Nat} (h : k ≤ n) : (allP ws k).length ≤ (allP ws n).length := by
  obtain ⟨t, ht⟩ := allP_prefix ws h
  rw [ht, List.length_append]; omega
theorem pairs_len (i : Nat) (h : List Int) : (pairsOf i h).length = h.length := by unfold pairsOf; rw [List.length_map]
theorem part_prefix (ws : List Wt) {k q : Nat} (hk : k < ws.length) : ∃ t, allP ws ws.length = (allP ws k ++ pairsOf k ((holdsW ws k).take q)) ++ t := by
  obtain ⟨t, ht⟩ := allP_prefix ws (show k + 1 ≤ ws.length by omega)
  refine ⟨pairsOf k ((holdsW ws k).drop q) ++ t, ?_⟩
  rw [ht, allP_succ]
  have : pairsOf k (holdsW ws k) = pairsOf k ((holdsW ws k).take q) ++ pairsOf k ((holdsW ws k).drop q) := by
    unfold pairsOf; rw [← List.map_append, List.take_append_drop]
  rw [this]; simp [List.append_assoc]

set_option maxHeartbeats 2000000 in
set_option maxRecDepth 100000 in
theorem holders_any {W : World} {v : Value} {ws : List Wt} (h : Wts W v ws) (hn : ws.length ≤ 64) (hP : (allP ws ws.length).length ≤ 100000) : Calls Try.prog 40 #[v] W (Held W ws) := by
  obtain ⟨a, cap, rfl, hc⟩ := h.parts
  have HC := Lib.hid hc
  have hmm := @run_makeMap Try.prog
  clear h hc
  go_enter Try.func40, Try.ntmps40
  go_wp2
  have HM0 : Hid (Mp (W.alloc (.map #[] 0)) W.heap.size 0 0 (fun _ => none)) := Lib.hid (Mp.none W)
  have HB0 : Hid (Below W.heap.size W (W.alloc (.map #[] 0))) := Lib.hid ((Below.refl _ _).alloc (Nat.le_refl _) _)
  generalize W.alloc (.map #[] 0) = W1 at HM0 HB0 ⊢
  clear hmm
  go_loopw [14] (fun u wr => ∃ k : Nat, k ≤ ws.length ∧ u = .int .i64 k ∧ Hid (okP (allP ws k) ∧ (∃ m, Mp wr W.heap.size (allP ws k).length m (hf (allP ws k))) ∧ Below W.heap.size W wr)) (fun u _ => ws.length - (intOf u).toNat)
  case atStart => exact ⟨0, by omega, rfl, Lib.hid ⟨⟨by simp [allP], by simp [allP]⟩, ⟨0, HM0.out⟩, HB0.out⟩⟩
  case round =>
    obtain ⟨k, hk, rfl, HR⟩ := hrel
    clear HM0 HB0
    by_cases hlt : k < ws.length
    · obtain ⟨b, off, rfl, hbl, hcs⟩ : ∃ b off, a = some ⟨b, off, none⟩ ∧ b < W.heap.size ∧ ∀ i, i < ws.length → ∃ u, W.cell? ⟨b, off + i * 2, none⟩ = some u ∧ Ints .i64 W u (ws.getD i wE).1 ∧ W.cell? ⟨b, off + i * 2 + 1, none⟩ = some (.int .i64 (ws.getD i wE).2) := by
        rcases HC.out with h | h
        · rw [h] at hlt; simp at hlt
        · exact h
      obtain ⟨u, hu, hI, hx⟩ := hcs k hlt
      have HBk := HR.out.2.2
      have hu1 := (HBk.cell (p := ⟨b, off + k * 2, none⟩) hbl).trans hu
      have hx1 := (HBk.cell (p := ⟨b, off + k * 2 + 1, none⟩) hbl).trans hx
      have HI := Lib.hid hI
      obtain ⟨au, cu, e1⟩ := ints_shape hI
      obtain ⟨hl, hhl⟩ : ∃ hl, (ws.getD k wE).1 = hl := ⟨_, rfl⟩
      rw [hhl] at e1 HI
      generalize (ws.getD k wE).2 = y at hx1
      subst e1
      have HHL : Hid (holdsW ws k = hl) := Lib.hid hhl
      have HLM : Hid (hl.length ≤ 100000) := Lib.hid (by
        have := allP_len_le ws (show k + 1 ≤ ws.length by omega)
        rw [allP_succ, List.length_append, pairs_len, HHL.out] at this
        omega)
      have hlm : hl.length ≤ 100000 := HLM.out
      have HB5 : Hid (Below W.heap.size W (wr.alloc (.cells #[.slice au hl.length cu, .int .i64 y] 52))) := Lib.hid (HBk.alloc HBk.size _)
      have HM5 : Hid (∃ m, Mp (wr.alloc (.cells #[.slice au hl.length cu, .int .i64 y] 52)) W.heap.size (allP ws k).length m (hf (allP ws k))) := Lib.hid (by
        obtain ⟨m, hm⟩ := HR.out.2.1
        exact ⟨m, hm.below ((Below.refl _ _).alloc (Nat.le_refl _) _)⟩)
      clear hcs hu hI hx HBk hhl
      go_wp2
      generalize wr.alloc (.cells #[.slice au hl.length cu, .int .i64 y] 52) = w5 at HB5 HM5 ⊢
      go_loopw [22] (fun u wr => ∃ q : Nat, q ≤ hl.length ∧ u = .int .i64 q ∧ Hid (okP (allP ws k ++ pairsOf k (hl.take q)) ∧ (∃ m, Mp wr W.heap.size (allP ws k ++ pairsOf k (hl.take q)).length m (hf (allP ws k ++ pairsOf k (hl.take q)))) ∧ Below W.heap.size W wr)) (fun u _ => hl.length - (intOf u).toNat)
      case atStart =>
        refine ⟨0, by omega, rfl, Lib.hid ?_⟩
        rw [List.take_zero, show pairsOf k [] = [] from rfl, List.append_nil]
        exact ⟨HR.out.1, HM5.out, HB5.out⟩
      case round =>
        obtain ⟨q, hq, rfl, HX⟩ := hrel
        clear HM5 HB5 hu1 hx1
        by_cases hlq : q < hl.length
        · rcases HI.out.parts with ⟨h0, -⟩ | ⟨-, -, bq, oq, cq, e, hbq, hcq⟩
          · rw [h0] at hlq; simp at hlq
          obtain rfl : au = some ⟨bq, oq, none⟩ := by simp only [Value.slice.injEq] at e; exact e.1
          have hcc := (HX.out.2.2.cell (p := ⟨bq, oq + q, none⟩) hbq).trans (hcq q hlq)
          obtain ⟨x, hx⟩ : ∃ x, hl.getD q 0 = x := ⟨_, rfl⟩
          rw [hx] at hcc
          have HIX : Hid (I x) := Lib.hid (by
            have := HI.out.wf x (by rw [← hx]; simp [List.getD, hlq])
            simp only [Lit.wf, IntKind.min, IntKind.max, IntKind.signed, IntKind.bits, Bool.and_eq_true, decide_eq_true_eq, if_true] at this
            unfold I; omega)
          have HPT : Hid (pairsOf k (hl.take (q + 1)) = pairsOf k (hl.take q) ++ [(x, (k : Int))]) := Lib.hid (by rw [pairs_take hlq, hx])
          have HPX := part_prefix ws (q := q + 1) hlt
          rw [HHL.out, HPT.out, ← List.append_assoc] at HPX
          have HPX := Lib.hid HPX
          have HPL : Hid ((allP ws k ++ pairsOf k (hl.take q)).length < 100000) := Lib.hid (by
            obtain ⟨t, ht⟩ := HPX.out
            rw [ht] at hP
            simp only [List.length_append, List.length_cons, List.length_nil] at hP ⊢
            omega)
          generalize hps : allP ws k ++ pairsOf k (hl.take q) = ps at HX HPX HPL
          have HPS := Lib.hid hps
          clear hps
          obtain ⟨hok, ⟨m, hm⟩, hbx⟩ := HX.out
          have HM := Lib.hid hm
          have HBX := Lib.hid hbx
          have HOK := Lib.hid hok
          clear HX hcq e hx hok hm hbx hP
          cases hfx : hf ps x with
          | some y0 =>
            have HNO : Hid (¬ okP (allP ws ws.length)) := Lib.hid (fun hall => by
              obtain ⟨t, ht⟩ := HPX.out
              rw [ht] at hall
              have := ((okP_snoc HOK.out).1 (okP_prefix hall)).2
              rw [hfx] at this; cases this)
            have HFX := Lib.hid hfx
            clear hfx
            go_wp2_with (at_lookup; refine wpList_look rfl (.tmp 27) (.tmp 28) rfl W.heap.size _ _ _ x HIX.out (some y0) HFX.out rfl rfl HM.out ?_)
            go_ret2
            exact ⟨.inr ⟨HNO.out, rfl⟩, HBX.out⟩
          | none =>
            have HFX := Lib.hid hfx
            clear hfx
            by_cases hx0 : x < 0
            · have hd : decide (x < 0) = true := decide_eq_true hx0
              have HNO : Hid (¬ okP (allP ws ws.length)) := Lib.hid (fun hall => by
                obtain ⟨t, ht⟩ := HPX.out
                rw [ht] at hall
                have := ((okP_snoc HOK.out).1 (okP_prefix hall)).1
                omega)
              clear hx0
              go_wp2_with (at_lookup; refine wpList_look rfl (.tmp 27) (.tmp 28) rfl W.heap.size _ _ _ x HIX.out none HFX.out rfl rfl HM.out ?_)
              go_ret2
              exact ⟨.inr ⟨HNO.out, rfl⟩, HBX.out⟩
            · have hd : decide (x < 0) = false := decide_eq_false hx0
              have HOK2 : Hid (okP (ps ++ [(x, (k : Int))])) := Lib.hid ((okP_snoc HOK.out).2 ⟨by omega, HFX.out⟩)
              have HHF : Hid (hf (ps ++ [(x, (k : Int))]) = fun z => if z = x then some (k : Int) else hf ps z) := Lib.hid (hf_snoc HFX.out)
              have HKI : Hid (I (k : Int)) := Lib.hid (by unfold I; omega)
              clear hx0
              go_wp2_with (first
                | (at_lookup; refine wpList_look rfl (.tmp 27) (.tmp 28) rfl W.heap.size _ _ _ x HIX.out none HFX.out rfl rfl HM.out ?_)
                | (at_mapUpdate; refine wpList_store rfl (.tmp 37) (.tmp 38) (.tmp 39) rfl W.heap.size _ _ _ x k HIX.out HKI.out (by have := HPL.out; unfold maxLen; omega) rfl rfl rfl HM.out ?_; intro w6 hM6 hg6))
              refine ⟨⟨q + 1, by omega, by go_num, Lib.hid ?_⟩, by simp [intOf]; omega⟩
              rw [HPT.out, ← List.append_assoc, HPS.out]
              refine ⟨HOK2.out, ?_, HBX.out.grown hg6 HBX.out.size (fun r hr => by cases hr; exact Nat.le_refl _)⟩
              rw [HHF.out, List.length_append]
              exact ⟨_, hM6⟩
        · obtain rfl : q = hl.length := by omega
          have HX2 := HX.out
          rw [List.take_length, ← HHL.out, ← allP_succ] at HX2
          replace HX2 := Lib.hid HX2
          go_wp2
          exact ⟨⟨k + 1, by omega, by go_num, HX2⟩, by simp [intOf]; omega⟩
    · obtain rfl : k = ws.length := by omega
      go_wp2
      go_ret2
      obtain ⟨h1, ⟨m, h2⟩, h3⟩ := HR.out
      exact ⟨.inl ⟨h1, m, _, rfl, h2, Nat.le_refl _⟩, h3⟩

/-- What waitsFor tells. -/
def Waits (W : World) (ws : List Wt) (e : Ending) (w' : World) : Prop :=
  ((okW ws ∧ ∃ m b, e = .returned (.tuple #[.map (some b), .bool true]) ∧ m ≤ ws.length ∧ Mp w' b ws.length m (wf ws ws.length) ∧ W.heap.size ≤ b) ∨ (¬ okW ws ∧ e = .returned (.tuple #[.map none, .bool false]))) ∧ Below W.heap.size W w'

set_option maxHeartbeats 2000000 in
set_option maxRecDepth 100000 in
theorem waits_any {W : World} {v : Value} {ws : List Wt} (h : Wts W v ws) (hn : ws.length ≤ 64) (hP : (allP ws ws.length).length ≤ 100000) : Calls Try.prog 31 #[v] W (Waits W ws) := by
  have HH := Lib.hid (holders_any h hn hP)
  obtain ⟨a, cap, rfl, hc⟩ := h.parts
  have HC := Lib.hid hc
  have hmm := @run_makeMap Try.prog
  have HWI : Hid (∀ x ∈ ws, I x.2) := Lib.hid (by obtain ⟨_, _, _, _, hw, _⟩ := h; exact hw)
  clear h hc hP
  by_cases hok : okP (allP ws ws.length)
  · have HOK := Lib.hid hok
    go_enter Try.func31, Try.ntmps31
    go_wp2_with fail
    refine HH.out.mono ?_
    rintro e w1 ⟨⟨-, m, bm, rfl, hM, hbm⟩ | ⟨hno, -⟩, hb1⟩
    rotate_left
    · exact absurd HOK.out hno
    have HM1 : Hid (Mp (w1.alloc (.map #[] 0)) bm (allP ws ws.length).length m (hf (allP ws ws.length))) := Lib.hid (hM.below ((Below.refl _ _).alloc (Nat.le_refl _) _))
    have HW1 : Hid (Mp (w1.alloc (.map #[] 0)) w1.heap.size 0 0 (fun _ => none)) := Lib.hid (Mp.none w1)
    have HB1 : Hid (Below W.heap.size W (w1.alloc (.map #[] 0))) := Lib.hid (hb1.alloc hb1.size _)
    have HNE : Hid (bm < w1.heap.size ∧ W.heap.size ≤ w1.heap.size) := Lib.hid ⟨hM.lt, hb1.size⟩
    clear hM hbm hb1 hok
    go_wp2_with fail
    obtain ⟨bw, hbw⟩ : ∃ bw, w1.heap.size = bw := ⟨_, rfl⟩
    rw [hbw] at HW1 HNE ⊢
    generalize w1.alloc (.map #[] 0) = w2 at HM1 HW1 HB1 ⊢
    clear hmm hbw
    go_wp2
    go_loopw [21] (fun u wr => ∃ k : Nat, k ≤ ws.length ∧ u = .int .i64 k ∧ Hid ((∀ i, i < k → wantsW ws i ∉ holdsW ws i) ∧ Mp wr bm (allP ws ws.length).length m (hf (allP ws ws.length)) ∧ (∃ mw, mw ≤ k ∧ Mp wr bw k mw (wf ws k)) ∧ Below W.heap.size W wr)) (fun u _ => ws.length - (intOf u).toNat)
    case atStart => exact ⟨0, by omega, rfl, Lib.hid ⟨fun i hi => absurd hi (Nat.not_lt_zero _), HM1.out, ⟨0, by omega, by rw [wf_none]; exact HW1.out⟩, HB1.out⟩⟩
    case round =>
      obtain ⟨k, hk, rfl, HR⟩ := hrel
      clear HM1 HW1 HB1
      by_cases hlt : k < ws.length
      · obtain ⟨b, off, rfl, hbl, hcs⟩ : ∃ b off, a = some ⟨b, off, none⟩ ∧ b < W.heap.size ∧ ∀ i, i < ws.length → ∃ u, W.cell? ⟨b, off + i * 2, none⟩ = some u ∧ Ints .i64 W u (ws.getD i wE).1 ∧ W.cell? ⟨b, off + i * 2 + 1, none⟩ = some (.int .i64 (ws.getD i wE).2) := by
          rcases HC.out with h | h
          · rw [h] at hlt; simp at hlt
          · exact h
        obtain ⟨u, hu, hI, hx⟩ := hcs k hlt
        obtain ⟨hno, hMm, ⟨mw, hmw, hMw⟩, hBk⟩ := HR.out
        have hu1 := (hBk.cell (p := ⟨b, off + k * 2, none⟩) hbl).trans hu
        have hx1 := (hBk.cell (p := ⟨b, off + k * 2 + 1, none⟩) hbl).trans hx
        obtain ⟨au, cu, e1⟩ := ints_shape hI
        generalize (ws.getD k wE).1.length = nu at e1
        obtain ⟨y, hy⟩ : ∃ y, (ws.getD k wE).2 = y := ⟨_, rfl⟩
        rw [hy] at hx1
        have HY : Hid (wantsW ws k = y) := Lib.hid hy
        have HIY : Hid (I y) := Lib.hid (by rw [← hy]; exact HWI.out _ (by simp [List.getD, hlt]))
        subst e1
        have hgr : Below wr.heap.size wr (wr.alloc (.cells #[.slice au nu cu, .int .i64 y] 52)) := (Below.refl _ _).alloc (Nat.le_refl _) _
        have HMm := Lib.hid (hMm.below hgr)
        have HMw := Lib.hid (hMw.below hgr)
        have HMW := Lib.hid hmw
        have HBk := Lib.hid (hBk.trans (hgr.mono hBk.size))
        have HNO := Lib.hid hno
        have HKI : Hid (I (k : Int)) := Lib.hid (by unfold I; omega)
        have hq1 : (wr.alloc (.cells #[.slice au nu cu, .int .i64 y] 52)).cell? ⟨wr.heap.size, 1, none⟩ = some (.int .i64 y) := by rw [World.cell?_alloc_at _ _ _ _ rfl]; rfl
        clear hcs hu hI hx hy hno hMm hMw hBk hgr HR hmw
        cases hfx : hf (allP ws ws.length) y with
        | none =>
          have HFX := Lib.hid hfx
          have HWF : Hid (wf ws (k + 1) = wf ws k) := Lib.hid (wf_no (by rw [HY.out]; exact hfx))
          have HNN : Hid (wantsW ws k ∉ holdsW ws k) := Lib.hid (fun hm => by
            have := (hf_all HOK.out).2 ⟨k, hlt, rfl, hm⟩
            rw [HY.out, hfx] at this; cases this)
          clear hfx
          go_wp2_with (at_lookup; refine wpList_look rfl (.tmp 27) (.tmp 29) rfl bm _ _ _ y HIY.out none HFX.out rfl rfl HMm.out ?_)
          refine ⟨⟨k + 1, by omega, by go_num, Lib.hid ⟨fun i hi => ?_, HMm.out, ⟨mw, by have := HMW.out; omega, by rw [HWF.out]; exact HMw.out.mono (by omega)⟩, HBk.out⟩⟩, by simp [intOf]; omega⟩
          by_cases e : i = k
          · subst e; exact HNN.out
          · exact HNO.out i (by omega)
        | some z =>
          have HFX := Lib.hid hfx
          obtain ⟨j, hj, hz, hm⟩ := (hf_all HOK.out).1 hfx
          subst hz
          have HJM := Lib.hid (And.intro hj hm)
          clear hfx hm
          by_cases hjk : j = k
          · have hd1 : ((j : Int) == (k : Int)) = true := by simp [hjk]
            have hd2 : ((k : Int) == (j : Int)) = true := by simp [hjk]
            have HBAD : Hid (¬ okW ws) := Lib.hid (fun h => h.2 k hlt (by have := HJM.out.2; rw [hjk] at this; rw [HY.out]; exact this))
            go_wp2_with (at_lookup; refine wpList_look rfl (.tmp 27) (.tmp 29) rfl bm _ _ _ y HIY.out (some (j : Int)) HFX.out rfl rfl HMm.out ?_)
            all_goals (
              go_ret2
              exact ⟨.inr ⟨HBAD.out, rfl⟩, HBk.out⟩)
          · have hd1 : ((j : Int) == (k : Int)) = false := by simp; omega
            have hd2 : ((k : Int) == (j : Int)) = false := by simp; omega
            have HJI : Hid (I (j : Int)) := Lib.hid (by unfold I; omega)
            have HWF : Hid (wf ws (k + 1) = fun x => if x = (k : Int) then some (j : Int) else wf ws k x) := Lib.hid (wf_yes (by rw [HY.out]; exact HFX.out))
            have HNN : Hid (wantsW ws k ∉ holdsW ws k) := Lib.hid (fun hm => by
              have h1 := (hf_all HOK.out).2 ⟨k, hlt, rfl, hm⟩
              rw [HY.out, HFX.out] at h1
              have : (j : Int) = k := Option.some.inj h1
              omega)
            have HJK := Lib.hid hjk
            clear hjk
            go_wp2_with (first
              | (at_lookup; refine wpList_look rfl (.tmp 27) (.tmp 29) rfl bm _ _ _ y HIY.out (some (j : Int)) HFX.out rfl rfl HMm.out ?_)
              | (at_mapUpdate; refine wpList_store rfl (.tmp 38) (.tmp 39) (.tmp 40) rfl bw _ _ _ k j HKI.out HJI.out (by unfold maxLen; omega) rfl rfl rfl HMw.out ?_; intro w6 hM6 hg6))
            refine ⟨⟨k + 1, by omega, by go_num, Lib.hid ⟨fun i hi => ?_, HMm.out.grown hg6 (by intro e; have := HNE.out; cases e; omega), ⟨_, ?_, by rw [HWF.out]; exact hM6⟩, HBk.out.grown hg6 HBk.out.size (fun r hr => by cases hr; exact HNE.out.2)⟩⟩, by simp [intOf]; omega⟩
            · by_cases e : i = k
              · subst e; exact HNN.out
              · exact HNO.out i (by omega)
            · have := HMW.out
              split <;> omega
      · obtain rfl : k = ws.length := by omega
        go_wp2
        go_ret2
        obtain ⟨h1, h2, ⟨mw, h3, h4⟩, h5⟩ := HR.out
        exact ⟨.inl ⟨⟨HOK.out, h1⟩, mw, _, rfl, h3, h4, HNE.out.2⟩, h5⟩
  · have HNO := Lib.hid hok
    clear hok
    go_enter Try.func31, Try.ntmps31
    go_wp2_with fail
    refine HH.out.mono ?_
    rintro e w1 ⟨⟨hok, -⟩ | ⟨-, rfl⟩, hb1⟩
    · exact absurd hok HNO.out
    have HB1 := Lib.hid hb1
    go_wp2
    go_ret2
    exact ⟨.inr ⟨fun h => HNO.out h.1, rfl⟩, HB1.out⟩
end Go.Proofs.Ythbabhmpkniliaa
