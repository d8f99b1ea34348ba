/-
  Contracts of tree's meet and whole.
-/
import Derived.Test.YtgjacmkedgbneaaTwA
import Derived.Test.YtgjacmkedgbneaaPlA
import Derived.Deep.DeepCutAuto
import Derived.Deep.LoopGhost
import Derived.Shelf.SlSortCmp.QuietGrown
namespace Go.Proofs.Ytgjacmkedgbneaa
open Go.RowKit Go.Sort Wd Tn Ky Tr

/-- The array of what is met. -/
def Mb (w : World) (a : Nat) (met : List Bool) : Prop := w.heap[a]? = some (.cells (met.map Value.bool).toArray 103 (0, 0)) ∧ met.length = 64
theorem Mb.cell {w : World} {a : Nat} {met : List Bool} (h : Mb w a met) {k : Nat} (hk : k < 64) : w.cell? ⟨a, k, none⟩ = some (.bool (met.getD k false)) := by
  have h2 : k < met.length := by rw [h.2]; exact hk
  unfold World.cell?
  rw [h.1]
  simp [List.getD, h2]
theorem Mb.frozen {w : World} {a : Nat} {met : List Bool} (h : Mb w a met) (k : Nat) : w.frozen? ⟨a, k, none⟩ = false := by
  have := h.1
  simp [World.frozen?, this]
theorem Mb.set {w : World} {a : Nat} {met : List Bool} (h : Mb w a met) (k : Nat) : Mb (w.setCell ⟨a, k, none⟩ (.bool true)) a (met.set k true) := by
  refine ⟨?_, by rw [List.length_set]; exact h.2⟩
  have := h.1
  simp only [World.setCell, Array.getElem?_modify, if_true, this]
  simp [List.map_set]
theorem Mb.lt {w : World} {a : Nat} {met : List Bool} (h : Mb w a met) : a < w.heap.size := (Array.getElem?_eq_some_iff.1 h.1).1
theorem Mb.below {w w' : World} {a : Nat} {met : List Bool} (h : Mb w a met) (hb : Below w.heap.size w w') : Mb w' a met := ⟨(hb.block a h.lt).trans h.1, h.2⟩

set_option maxHeartbeats 1000000 in
theorem meet_at {w0 : World} {b : Nat} {v : Value} {t : T} (hT : Tp w0 b v t) (hl : t.ns.length ≤ 64) {a : Nat} (ha : w0.heap.size ≤ a) (n : Nat) : ∀ (x u : Int) (met : List Bool) (w : World), cnt met ≤ n → Mb w a met → Below w0.heap.size w0 w →
    Calls Try.prog 75 #[.pointer (some ⟨b, 0, none⟩), .int .i64 x, .int .i64 u, .pointer (some ⟨a, 0, none⟩)] w fun e w' => e = .returned (.bool (meetF t n x u met).1) ∧ Mb w' a (meetF t n x u met).2 ∧ Below w0.heap.size w0 w' := by
  -- what ends at once
  have no : ∀ (n : Nat) (x u : Int) (met : List Bool) (w : World), x ≠ -1 → ¬ (t.has x ∧ met.getD x.toNat false = false ∧ t.up x = u) → Mb w a met → Below w0.heap.size w0 w →
      Calls Try.prog 75 #[.pointer (some ⟨b, 0, none⟩), .int .i64 x, .int .i64 u, .pointer (some ⟨a, 0, none⟩)] w fun e w' => e = .returned (.bool false) ∧ w' = w := by
    intro n x u met w hx hno hM hB
    have hTp := hT.below hB
    have HA := Lib.hid (has_at hTp x)
    have hne : (x == -1) = false := by rw [beq_eq_false_iff_ne]; exact hx
    by_cases hh : t.has x
    · rw [decide_eq_true hh] at HA
      obtain ⟨k, rfl, hk⟩ := has_nat hh
      have mc := hM.cell (k := k) (by omega)
      obtain ⟨nb, off, cap, rfl, hc1, hc2, hn⟩ := hTp.node hk
      have c1 := hTp.2.1
      have cu := hn.2.2.2.2.2
      by_cases hm : met.getD k false = false
      · have hu : t.up k ≠ u := fun e => hno ⟨hh, by simpa using hm, e⟩
        change (t.nd k).u ≠ u at hu
        have hu2 : ((t.nd k).u == u) = false := by rw [beq_eq_false_iff_ne]; exact hu
        generalize (t.nd k).u = y at cu hu hu2
        rw [hm] at mc
        clear hT hTp hM hB hno hn hh hm
        go_enter Try.func75, Try.ntmps75
        go_wp2_with fail
        refine (HA.out).mono ?_
        rintro e' w' ⟨rfl, rfl⟩
        go_wp2
        go_ret
        exact ⟨rfl, rfl⟩
      · have hm : met.getD k false = true := by simpa using hm
        rw [hm] at mc
        clear hT hTp hM hB hno hn hh hm
        go_enter Try.func75, Try.ntmps75
        go_wp2_with fail
        refine (HA.out).mono ?_
        rintro e' w' ⟨rfl, rfl⟩
        go_wp2
        go_ret
        exact ⟨rfl, rfl⟩
    · rw [decide_eq_false hh] at HA
      clear hT hTp hM hB hno hh
      go_enter Try.func75, Try.ntmps75
      go_wp2_with fail
      refine (HA.out).mono ?_
      rintro e' w' ⟨rfl, rfl⟩
      go_wp2
      go_ret
      exact ⟨rfl, rfl⟩
  have yes : ∀ (u : Int) (w : World), Calls Try.prog 75 #[.pointer (some ⟨b, 0, none⟩), .int .i64 (-1), .int .i64 u, .pointer (some ⟨a, 0, none⟩)] w fun e w' => e = .returned (.bool true) ∧ w' = w := by
    intro u w
    go_enter Try.func75, Try.ntmps75
    go_wp2_with fail
    go_ret
    exact ⟨rfl, rfl⟩
  induction n with
  | zero =>
    intro x u met w hc hM hB
    by_cases hx : x = -1
    · subst hx
      refine (yes u w).mono ?_
      rintro e w' ⟨rfl, rfl⟩
      exact ⟨rfl, hM, hB⟩
    · refine (no 0 x u met w hx (fun h => ?_) hM hB).mono ?_
      · have h1 := h.1
        unfold T.has at h1
        have := cnt_zero (Nat.le_zero.1 hc) (k := x.toNat) (by rw [hM.2]; omega)
        rw [this] at h
        exact absurd h.2.1 (by decide)
      · rintro e w' ⟨rfl, rfl⟩
        exact ⟨by simp [meetF, hx], hM, hB⟩
  | succ n ih =>
    intro x u met w hc hM hB
    by_cases hx : x = -1
    · subst hx
      refine (yes u w).mono ?_
      rintro e w' ⟨rfl, rfl⟩
      exact ⟨by simp [meetF], by simpa [meetF] using hM, hB⟩
    · by_cases hg : t.has x ∧ met.getD x.toNat false = false ∧ t.up x = u
      · obtain ⟨k, rfl, hk⟩ := has_nat hg.1
        have hg2 := hg
        simp only [Int.toNat_natCast] at hg2
        have EM : Hid (meetF t (n + 1) k u met = if (meetF t n (t.kid k false) k (met.set k true)).1 = true then meetF t n (t.kid k true) k (meetF t n (t.kid k false) k (met.set k true)).2 else (false, (meetF t n (t.kid k false) k (met.set k true)).2)) := Lib.hid (by
          rw [meetF, if_neg hx, if_pos hg]; simp only [Int.toNat_natCast])
        rw [EM.out]
        have hcs := cnt_set (met := met) (k := k) (by rw [hM.2]; omega) hg2.2.1
        have HI1 := Lib.hid (ih (t.kid k false) k (met.set k true) (w.setCell ⟨a, k, none⟩ (.bool true)) (by omega) (hM.set k) (hB.setCell (p := ⟨a, k, none⟩) ha _))
        have HI2 := Lib.hid (fun w2 hw2 hb2 => ih (t.kid k true) k (meetF t n (t.kid k false) k (met.set k true)).2 w2 (by have := meetF_cnt t n (t.kid k false) k (met.set k true) (by rw [List.length_set, hM.2]; exact hl); omega) hw2 hb2)
        clear EM
        generalize hr1 : meetF t n (t.kid k false) k (met.set k true) = r1 at HI1 HI2 ⊢
        clear hr1
        obtain ⟨ok1, met1⟩ := r1
        simp only at HI1 HI2 ⊢
        have HN : Hid (∀ w2, Below w0.heap.size w0 w2 → ∃ nb off cap, v = .slice (some ⟨nb, off, none⟩) t.ns.length cap ∧ w2.cell? ⟨b, 1, none⟩ = some v ∧ w2.cell? ⟨nb, off + k * 6 + 3, none⟩ = some (.int .i64 (t.kid k false)) ∧ w2.cell? ⟨nb, off + k * 6 + 4, none⟩ = some (.int .i64 (t.kid k true)) ∧ w2.cell? ⟨nb, off + k * 6 + 5, none⟩ = some (.int .i64 u) ∧ cap ≤ maxLen ∧ t.ns.length ≤ cap) := Lib.hid (fun w2 hb2 => by
          have hTp := hT.below hb2
          obtain ⟨nb, off, cap, rfl, hc1, hc2, hn⟩ := hTp.node hk
          exact ⟨nb, off, cap, rfl, hTp.2.1, hn.2.2.2.1, hn.2.2.2.2.1, by rw [← hg2.2.2]; exact hn.2.2.2.2.2, hc2, hc1⟩)
        have HA := Lib.hid (has_at (hT.below hB) k)
        rw [decide_eq_true hg.1] at HA
        have mc := hM.cell (k := k) (by omega)
        rw [hg2.2.1] at mc
        have mf := hM.frozen k
        have HB1 := Lib.hid (hB.setCell (p := ⟨a, k, none⟩) ha (.bool true))
        obtain ⟨nb, off, cap, rfl, d1, d3, d4, d5, hc2, hc1⟩ := HN.out w hB
        have HS1 : Hid (∀ w2, Below w0.heap.size w0 w2 → w2.cell? ⟨b, 1, none⟩ = some (.slice (some ⟨nb, off, none⟩) t.ns.length cap) ∧ w2.cell? ⟨nb, off + k * 6 + 3, none⟩ = some (.int .i64 (t.kid k false)) ∧ w2.cell? ⟨nb, off + k * 6 + 4, none⟩ = some (.int .i64 (t.kid k true))) := Lib.hid (fun w2 hb2 => by
          obtain ⟨nb', off', cap', he, e1, e3, e4, -, -, -⟩ := HN.out w2 hb2
          simp only [Value.slice.injEq, Option.some.injEq, Addr.mk.injEq] at he
          obtain ⟨⟨rfl, rfl, -⟩, -, rfl⟩ := he
          exact ⟨e1, e3, e4⟩)
        obtain ⟨g1, g3, g4⟩ := HS1.out _ HB1.out
        have hkne : ((k : Int) == -1) = false := by rw [beq_eq_false_iff_ne]; exact hx
        have hk64 : k < 64 := by omega
        clear HN d3 d4 hg hg2 hcs hM hB hc hT ih no yes hx
        generalize t.kid k false = cl at HI1 HI2 HS1 g3
        generalize t.kid k true = cr at HI1 HI2 HS1 g4 ⊢
        go_enter Try.func75, Try.ntmps75
        go_wp2_with fail
        refine (HA.out).mono ?_
        rintro e' w' ⟨rfl, rfl⟩
        go_wp2_with fail
        refine HI1.out.mono ?_
        rintro e' w2 ⟨rfl, hm2, hb2⟩
        have HM2 := Lib.hid (And.intro hm2 hb2)
        have HI3 := Lib.hid (HI2.out w2 hm2 hb2)
        obtain ⟨k1, k3, k4⟩ := HS1.out _ hb2
        clear HI1 HI2 hm2 hb2 g1 g3 g4 d1 d5 mc mf HB1 HS1
        cases ok1 with
        | false =>
          go_wp2
          go_ret
          exact ⟨rfl, HM2.out.1, HM2.out.2⟩
        | true =>
          go_wp2_with fail
          refine HI3.out.mono ?_
          rintro e' w3 ⟨rfl, hm3, hb3⟩
          have HM3 := Lib.hid (And.intro hm3 hb3)
          clear hm3 hb3 HI3
          go_wp2
          go_ret
          exact ⟨rfl, HM3.out.1, HM3.out.2⟩
      · refine (no n x u met w hx hg hM hB).mono ?_
        rintro e w' ⟨rfl, rfl⟩
        have e1 : meetF t (n + 1) x u met = (false, met) := by rw [meetF, if_neg hx, if_neg hg]
        rw [e1]
        exact ⟨rfl, hM, hB⟩

/-- A node that the call itself laid. -/
theorem nodeNeq (n : N) : n ≠ nE → ¬ (n.inn = false ∧ n.red = false ∧ n.v = 0 ∧ n.l = -1 ∧ n.r = -1 ∧ n.u = -1) := fun h k => h ((N_eq n nE).1 k)

theorem emptyN_at (w : World) : Calls Try.prog 54 #[] w fun e w' => e = .returned (.agg #[.bool false, .bool false, .int .u64 0, .int .i64 (-1), .int .i64 (-1), .int .i64 (-1)]) ∧ Gr w w' := by
  go_enter Try.func54, Try.ntmps54
  go_wp2
  exact bodyPost_ret (v := .agg #[.bool false, .bool false, .int .u64 0, .int .i64 (-1), .int .i64 (-1), .int .i64 (-1)]) (by simp [results, Try.results54, go_sem]) rfl ⟨rfl, Gr.alloc _ _⟩

set_option maxHeartbeats 2000000 in
set_option maxRecDepth 100000 in
theorem whole_at {W : World} {b : Nat} {v : Value} {t : T} (hT : Tp W b v t) :
    Calls Try.prog 50 #[.pointer (some ⟨b, 0, none⟩)] W fun e w' => e = .returned (.bool (decide (wholeP t))) ∧ Below W.heap.size W w' := by
  have mixed : Try.prog.follows .mixedOrders = true := by kernel_rfl
  have HT := Lib.hid hT
  obtain ⟨c0, c1, hN⟩ := hT
  obtain ⟨a0, cap, rfl, hc1, hc2⟩ := hN.len
  unfold maxLen at hc2
  obtain ⟨r, hr⟩ : ∃ r, decide (wholeP t) = r := ⟨_, rfl⟩
  rw [hr]
  have HR := Lib.hid hr
  clear hr hN
  by_cases hl : t.ns.length ≤ 64
  · have HM0 : Hid (Mb (W.alloc (.cells (List.replicate 64 (Value.bool false)).toArray 103)) W.heap.size (List.replicate 64 false)) := Lib.hid ⟨by rw [heap_alloc_new]; simp, by simp⟩
    have HB0 := Lib.hid ((Below.refl W.heap.size W).alloc (Nat.le_refl _) (.cells (List.replicate 64 (Value.bool false)).toArray 103))
    have HME := Lib.hid (meet_at HT.out hl (Nat.le_refl W.heap.size) 64 t.root (-1) (List.replicate 64 false) _ (by simp [cnt]) HM0.out HB0.out)
    have HRR : Hid (r = true ↔ wholeP t) := Lib.hid (by rw [← HR.out]; simp)
    have d0 := HB0.out.cell (p := ⟨b, 0, none⟩) (World.block_lt_of_cell? W _ c0)
    rw [c0] at d0
    generalize hmf : meetF t 64 t.root (-1) (List.replicate 64 false) = mf at HME
    obtain ⟨ok, met⟩ := mf
    have HW : Hid (wholeP t ↔ ok = true ∧ ∀ i : Nat, i < t.ns.length → okN t met i) := Lib.hid (by unfold wholeP; rw [hmf]; exact ⟨fun h => h.2, fun h => ⟨hl, h⟩⟩)
    clear hmf
    have HNC : Hid (∀ k, k < t.ns.length → ∃ nb off, a0 = some ⟨nb, off, none⟩ ∧ ∀ X, Below W.heap.size W X → Nc X nb (off + k * 6) (t.nd k)) := Lib.hid (fun k hk => by
      obtain ⟨nb, off, cap', he, _, _, _⟩ := HT.out.node hk
      simp only [Value.slice.injEq] at he
      obtain ⟨rfl, -, rfl⟩ := he
      refine ⟨nb, off, rfl, fun X hX => ?_⟩
      obtain ⟨nb', off', cap', he', _, _, hn'⟩ := (HT.out.below hX).node hk
      simp only [Value.slice.injEq, Option.some.injEq, Addr.mk.injEq] at he'
      obtain ⟨⟨rfl, rfl, -⟩, -, rfl⟩ := he'
      exact hn')
    have HTX : Hid (∀ X, Below W.heap.size W X → X.cell? ⟨b, 0, none⟩ = some (.int .i64 t.root) ∧ X.cell? ⟨b, 1, none⟩ = some (.slice a0 t.ns.length cap)) := Lib.hid (fun X hX => ⟨(HT.out.below hX).1, (HT.out.below hX).2.1⟩)
    clear d0 HR HT
    go_enter Try.func50, Try.ntmps50
    go_upto_region 4 with fail
    generalize hw1 : W.alloc _ = w1
    have HB1 : Hid (Below W.heap.size W w1) := Lib.hid (by rw [← hw1]; exact HB0.out)
    have HME1 := Lib.hid (show Calls Try.prog 75 #[.pointer (some ⟨b, 0, none⟩), .int .i64 t.root, .int .i64 (-1), .pointer (some ⟨W.heap.size, 0, none⟩)] w1 fun e w' => e = .returned (.bool ok) ∧ Mb w' W.heap.size met ∧ Below W.heap.size W w' from by rw [← hw1]; exact HME.out)
    clear hw1 HME HM0 HB0
    obtain ⟨d0, d1⟩ := HTX.out w1 HB1.out
    go_wp2_with fail
    refine HME1.out.mono ?_
    rintro e' w2 ⟨rfl, hm2, hb2⟩
    have HM2 := Lib.hid hm2
    have HB2 := Lib.hid hb2
    obtain ⟨e0, e1⟩ := HTX.out w2 hb2
    clear HME1 hm2 hb2 d0 d1 HB1
    cases ok with
    | false =>
      obtain rfl : r = false := by
        have : ¬ r = true := fun h => by have := (HW.out.1 (HRR.out.1 h)).1; cases this
        simpa using this
      go_wp2
      go_ret
      exact ⟨rfl, HB2.out⟩
    | true =>
      go_upto_region 7 with fail
      go_loopw [24] (fun i wr => ∃ k : Nat, k ≤ t.ns.length ∧ i = .int .i64 k ∧ Hid (Mb wr W.heap.size met ∧ Below W.heap.size W wr ∧ ∀ j : Nat, j < k → okN t met j)) (fun i _ => t.ns.length - (intOf i).toNat)
      case atStart => exact ⟨0, by omega, rfl, Lib.hid ⟨HM2.out, HB2.out, fun j hj => absurd hj (Nat.not_lt_zero _)⟩⟩
      case round =>
        obtain ⟨k, hk, rfl, HK⟩ := hrel
        clear HM2 HB2 e0 e1
        by_cases hlt : k < t.ns.length
        · obtain ⟨nb, off, rfl, hnc⟩ := HNC.out k hlt
          have hn := hnc wr HK.out.2.1
          obtain ⟨x, hx⟩ : ∃ x, t.nd k = x := ⟨_, rfl⟩
          rw [hx] at hn
          have HX := Lib.hid hx
          obtain ⟨n0, n1, n2, n3, n4, n5⟩ := hn
          have hk64 : k < 64 := by omega
          have hk64' : (k : Int) < 64 := by omega
          have hk0' : (0 : Int) ≤ k := by omega
          have mc := HK.out.1.cell (k := k) hk64
          obtain ⟨y, hy⟩ : ∃ y, met.getD k false = y := ⟨_, rfl⟩
          have HY := Lib.hid hy
          rw [hy] at mc
          have HA := Lib.hid (HK.out.1.below ((Below.refl _ _).alloc (Nat.le_refl _) (.cells (cellsN1 x).toArray 57)))
          have HBA := Lib.hid (HK.out.2.1.alloc HK.out.2.1.size (.cells (cellsN1 x).toArray 57))
          have HOK := Lib.hid HK.out.2.2
          have HNW : Hid (∀ i, i < 6 → (wr.alloc (.cells (cellsN1 x).toArray 57)).cell? ⟨wr.heap.size, i, none⟩ = (cellsN1 x)[i]?) := Lib.hid (fun i _ => by unfold World.cell?; rw [heap_alloc_new]; simp)
          clear hx hy hnc HK
          go_upto_region 9 with fail
          generalize hq : wr.heap.size = q at HNW ⊢
          generalize hw3 : wr.alloc _ = w3
          have HM3 : Hid (Mb w3 W.heap.size met) := Lib.hid (by rw [← hw3]; exact HA.out)
          have HB3 : Hid (Below W.heap.size W w3) := Lib.hid (by rw [← hw3]; exact HBA.out)
          have HN3 : Hid (∀ i, i < 6 → w3.cell? ⟨q, i, none⟩ = (cellsN1 x)[i]?) := Lib.hid (by rw [← hw3]; exact HNW.out)
          clear hq hw3 HA HBA HNW n0 n1 n2 n3 n4 n5 mc
          have no : Hid (¬ okN t met k → r = false) := Lib.hid (fun h => by
            have : ¬ r = true := fun e => h ((HW.out.1 (HRR.out.1 e)).2 k hlt)
            simpa using this)
          have go : Hid (okN t met k → ∀ j : Nat, j < k + 1 → okN t met j) := Lib.hid (fun h j hj => by
            rcases (show j < k ∨ j = k by omega) with h1 | rfl
            · exact HOK.out j h1
            · exact h)
          have mc := HM3.out.cell (k := k) hk64
          rw [HY.out] at mc
          have l0 : w3.cell? ⟨q, 0, none⟩ = some (.bool x.inn) := HN3.out 0 (by omega)
          have f0 : ∀ n os, (grow (w3.drewN n) os).cell? ⟨q, 0, none⟩ = some (.bool x.inn) := fun n os => Gr.cell ⟨n, os, rfl⟩ l0
          have f1 : ∀ n os, (grow (w3.drewN n) os).cell? ⟨q, 1, none⟩ = some (.bool x.red) := fun n os => Gr.cell ⟨n, os, rfl⟩ (HN3.out 1 (by omega))
          have f2 : ∀ n os, (grow (w3.drewN n) os).cell? ⟨q, 2, none⟩ = some (.int .u64 x.v) := fun n os => Gr.cell ⟨n, os, rfl⟩ (HN3.out 2 (by omega))
          have f3 : ∀ n os, (grow (w3.drewN n) os).cell? ⟨q, 3, none⟩ = some (.int .i64 x.l) := fun n os => Gr.cell ⟨n, os, rfl⟩ (HN3.out 3 (by omega))
          have f4 : ∀ n os, (grow (w3.drewN n) os).cell? ⟨q, 4, none⟩ = some (.int .i64 x.r) := fun n os => Gr.cell ⟨n, os, rfl⟩ (HN3.out 4 (by omega))
          have f5 : ∀ n os, (grow (w3.drewN n) os).cell? ⟨q, 5, none⟩ = some (.int .i64 x.u) := fun n os => Gr.cell ⟨n, os, rfl⟩ (HN3.out 5 (by omega))
          have fm : ∀ n os, (grow (w3.drewN n) os).cell? ⟨W.heap.size, k, none⟩ = some (.bool y) := fun n os => Gr.cell ⟨n, os, rfl⟩ mc
          have hcg : ∀ n os, Calls Try.prog 54 #[] (grow (w3.drewN n) os) fun e w' => e = .returned (.agg #[.bool false, .bool false, .int .u64 0, .int .i64 (-1), .int .i64 (-1), .int .i64 (-1)]) ∧ ∃ q' os', w' = grow ((grow (w3.drewN n) os).drewN q') os' := fun n os => emptyN_at _
          clear HN3
          by_cases hne : x.inn = y
          · cases hi : x.inn with
            | true =>
              have OK : Hid (okN t met k) := Lib.hid ⟨by rw [HX.out, HY.out]; exact hne, .inl (by rw [HX.out]; exact hi)⟩
              rw [hi] at l0 f0
              obtain rfl : y = true := by rw [← hne]; exact hi
              clear hne hi f0 f1 f2 f3 f4 f5 fm hcg
              go_quiet (fail)
              have HF := Lib.hid (And.intro (HM3.out.below (Gr.drew _ nq).below) (HB3.out.trans ((Gr.drew _ nq).below.mono HB3.out.size)))
              clear HM3 HB3 l0 mc
              generalize w3.drewN nq = w4 at HF ⊢
              go_wp2
              refine ⟨⟨k + 1, by omega, by go_num, Lib.hid ⟨HF.out.1, HF.out.2, go.out OK.out⟩⟩, by simp [intOf]; omega⟩
            | false =>
              rw [hi] at l0 f0
              obtain rfl : y = false := by rw [← hne]; exact hi
              by_cases hE : x = nE
              · have OK : Hid (okN t met k) := Lib.hid ⟨by rw [HX.out, HY.out]; exact hne, .inr (by rw [HX.out]; exact hE)⟩
                subst hE
                clear hne hi
                have f1' : ∀ n os, (grow (w3.drewN n) os).cell? ⟨q, 1, none⟩ = some (.bool false) := f1
                have f2' : ∀ n os, (grow (w3.drewN n) os).cell? ⟨q, 2, none⟩ = some (.int .u64 0) := f2
                have f3' : ∀ n os, (grow (w3.drewN n) os).cell? ⟨q, 3, none⟩ = some (.int .i64 (-1)) := f3
                have f4' : ∀ n os, (grow (w3.drewN n) os).cell? ⟨q, 4, none⟩ = some (.int .i64 (-1)) := f4
                have f5' : ∀ n os, (grow (w3.drewN n) os).cell? ⟨q, 5, none⟩ = some (.int .i64 (-1)) := f5
                clear f1 f2 f3 f4 f5
                go_quiet_grown (first | (go_at_call 54; refine Calls.grown_of (hcg _ _)))
                have HG : Hid (Gr w3 (grow (w3.drewN nq) osq)) := Lib.hid ⟨nq, osq, rfl⟩
                have HF := Lib.hid (And.intro (HM3.out.below HG.out.below) (HB3.out.trans (HG.out.below.mono HB3.out.size)))
                clear f0 f1' f2' f3' f4' f5' fm hcg HM3 HB3 l0 mc HG
                generalize grow (w3.drewN nq) osq = w4 at HF ⊢
                go_wp2
                refine ⟨⟨k + 1, by omega, by go_num, Lib.hid ⟨HF.out.1, HF.out.2, go.out OK.out⟩⟩, by simp [intOf]; omega⟩
              · have OK : Hid (¬ okN t met k) := Lib.hid (fun h => by
                  rcases h.2 with h2 | h2
                  · rw [HX.out, hi] at h2; cases h2
                  · rw [HX.out] at h2; exact hE h2)
                obtain rfl : r = false := no.out OK.out
                have hd : x.red ≠ false ∨ (x.red = false ∧ x.v ≠ 0) ∨ (x.red = false ∧ x.v = 0 ∧ x.l ≠ -1) ∨ (x.red = false ∧ x.v = 0 ∧ x.l = -1 ∧ x.r ≠ -1) ∨ (x.red = false ∧ x.v = 0 ∧ x.l = -1 ∧ x.r = -1 ∧ x.u ≠ -1) := by
                  have hno := nodeNeq x hE
                  by_cases h1 : x.red = false
                  · by_cases h2 : x.v = 0
                    · by_cases h3 : x.l = -1
                      · by_cases h4 : x.r = -1
                        · exact .inr (.inr (.inr (.inr ⟨h1, h2, h3, h4, fun h5 => hno ⟨hi, h1, h2, h3, h4, h5⟩⟩)))
                        · exact .inr (.inr (.inr (.inl ⟨h1, h2, h3, h4⟩)))
                      · exact .inr (.inr (.inl ⟨h1, h2, h3⟩))
                    · exact .inr (.inl ⟨h1, h2⟩)
                  · exact .inl h1
                clear hne hi hE
                rcases hd with h1 | ⟨h1, h2⟩ | ⟨h1, h2, h3⟩ | ⟨h1, h2, h3, h4⟩ | ⟨h1, h2, h3, h4, h5⟩
                · have h1' : x.red = true := by simpa using h1
                  rw [h1'] at f1
                  generalize x.v = y2 at f2
                  generalize x.l = y3 at f3
                  generalize x.r = y4 at f4
                  generalize x.u = y5 at f5
                  go_quiet_grown (first | (go_at_call 54; refine Calls.grown_of (hcg _ _)))
                  have HG : Hid (Gr w3 (grow (w3.drewN nq) osq)) := Lib.hid ⟨nq, osq, rfl⟩
                  have HF := Lib.hid (HB3.out.trans (HG.out.below.mono HB3.out.size))
                  clear f0 f1 f2 f3 f4 f5 fm hcg HM3 HB3 l0 mc HG
                  generalize grow (w3.drewN nq) osq = w4 at HF ⊢
                  go_wp2
                  go_ret
                  exact ⟨rfl, HF.out⟩
                · rw [h1] at f1
                  have e2 : (x.v == 0) = false := by rw [beq_eq_false_iff_ne]; exact h2
                  generalize x.v = y2 at f2 e2 h2
                  generalize x.l = y3 at f3
                  generalize x.r = y4 at f4
                  generalize x.u = y5 at f5
                  go_quiet_grown (first | (go_at_call 54; refine Calls.grown_of (hcg _ _)))
                  have HG : Hid (Gr w3 (grow (w3.drewN nq) osq)) := Lib.hid ⟨nq, osq, rfl⟩
                  have HF := Lib.hid (HB3.out.trans (HG.out.below.mono HB3.out.size))
                  clear f0 f1 f2 f3 f4 f5 fm hcg HM3 HB3 l0 mc HG
                  generalize grow (w3.drewN nq) osq = w4 at HF ⊢
                  go_wp2
                  go_ret
                  exact ⟨rfl, HF.out⟩
                · rw [h1] at f1
                  rw [h2] at f2
                  have e3 : (x.l == -1) = false := by rw [beq_eq_false_iff_ne]; exact h3
                  generalize x.l = y3 at f3 e3 h3
                  generalize x.r = y4 at f4
                  generalize x.u = y5 at f5
                  go_quiet_grown (first | (go_at_call 54; refine Calls.grown_of (hcg _ _)))
                  have HG : Hid (Gr w3 (grow (w3.drewN nq) osq)) := Lib.hid ⟨nq, osq, rfl⟩
                  have HF := Lib.hid (HB3.out.trans (HG.out.below.mono HB3.out.size))
                  clear f0 f1 f2 f3 f4 f5 fm hcg HM3 HB3 l0 mc HG
                  generalize grow (w3.drewN nq) osq = w4 at HF ⊢
                  go_wp2
                  go_ret
                  exact ⟨rfl, HF.out⟩
                · rw [h1] at f1
                  rw [h2] at f2
                  rw [h3] at f3
                  have e4 : (x.r == -1) = false := by rw [beq_eq_false_iff_ne]; exact h4
                  generalize x.r = y4 at f4 e4 h4
                  generalize x.u = y5 at f5
                  go_quiet_grown (first | (go_at_call 54; refine Calls.grown_of (hcg _ _)))
                  have HG : Hid (Gr w3 (grow (w3.drewN nq) osq)) := Lib.hid ⟨nq, osq, rfl⟩
                  have HF := Lib.hid (HB3.out.trans (HG.out.below.mono HB3.out.size))
                  clear f0 f1 f2 f3 f4 f5 fm hcg HM3 HB3 l0 mc HG
                  generalize grow (w3.drewN nq) osq = w4 at HF ⊢
                  go_wp2
                  go_ret
                  exact ⟨rfl, HF.out⟩
                · rw [h1] at f1
                  rw [h2] at f2
                  rw [h3] at f3
                  rw [h4] at f4
                  have e5 : (x.u == -1) = false := by rw [beq_eq_false_iff_ne]; exact h5
                  generalize x.u = y5 at f5 e5 h5
                  go_quiet_grown (first | (go_at_call 54; refine Calls.grown_of (hcg _ _)))
                  have HG : Hid (Gr w3 (grow (w3.drewN nq) osq)) := Lib.hid ⟨nq, osq, rfl⟩
                  have HF := Lib.hid (HB3.out.trans (HG.out.below.mono HB3.out.size))
                  clear f0 f1 f2 f3 f4 f5 fm hcg HM3 HB3 l0 mc HG
                  generalize grow (w3.drewN nq) osq = w4 at HF ⊢
                  go_wp2
                  go_ret
                  exact ⟨rfl, HF.out⟩
          · have OK : Hid (¬ okN t met k) := Lib.hid (fun h => hne (by have := h.1; rw [HX.out, HY.out] at this; exact this))
            obtain rfl : r = false := no.out OK.out
            have hne2 : (x.inn == y) = false := by simpa using hne
            have hne3 : (x.inn != y) = true := by simpa using hne
            generalize x.inn = xi at *
            clear f0 f1 f2 f3 f4 f5 fm hcg
            go_quiet (fail)
            have HF := Lib.hid (HB3.out.trans ((Gr.drew _ nq).below.mono HB3.out.size))
            clear HM3 HB3 l0 mc
            generalize w3.drewN nq = w4 at HF ⊢
            go_wp2
            go_ret
            exact ⟨rfl, HF.out⟩
        · obtain rfl : k = t.ns.length := by omega
          obtain rfl : r = true := HRR.out.2 (HW.out.2 ⟨by trivial, HK.out.2.2⟩)
          go_wp2
          go_ret
          exact ⟨rfl, HK.out.2.1⟩
  · obtain rfl : r = false := by rw [← HR.out]; exact decide_eq_false (fun h => hl h.1)
    clear HT HR
    go_enter Try.func50, Try.ntmps50
    go_wp2
    go_ret
    exact ⟨rfl, Below.refl _ _⟩
end Go.Proofs.Ytgjacmkedgbneaa
