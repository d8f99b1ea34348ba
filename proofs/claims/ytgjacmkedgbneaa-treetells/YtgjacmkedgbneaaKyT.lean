/-
  Contracts of turnspitref08's Sorted, put, Sort, Put and Drop: the document's own answers for keys.
-/
import Derived.Test.YtgjacmkedgbneaaKyS
namespace Go.Proofs.Ytgjacmkedgbneaa
open Go.RowKit Go.Sort Wd Tn Ky

theorem rsorted_none (m : Int) (a : Option Addr) (cap : Nat) (W : World) : Calls Try.prog 49 #[.int .u64 m, .slice a 0 cap] W fun e w' => e = .returned (.bool true) ∧ W = w' := by
  go_enter Try.func49, Try.ntmps49
  go_wp2
  refine wp_loop_rounds 1 ?_
  rw [rounds_succ]
  go_wp2
  go_ret
  exact ⟨rfl, rfl⟩

set_option maxHeartbeats 400000 in
set_option maxRecDepth 100000 in
theorem rsorted_some (m : Int) {l : List K} {W : World} {b off cap : Nat} (hl : l.length ≤ maxLen)
    (hc : ∀ i, i < l.length → W.cell? ⟨b, off + i * 2, none⟩ = some (.int .u64 (l.getD i (0, 0)).1) ∧ W.cell? ⟨b, off + i * 2 + 1, none⟩ = some (.int .i64 (l.getD i (0, 0)).2)) :
    Calls Try.prog 49 #[.int .u64 m, .slice (some ⟨b, off, none⟩) l.length cap] W fun e w' => e = .returned (.bool (decide (okK m l))) ∧ Gr W w' := by
  have mixed : Try.prog.follows .mixedOrders = true := by kernel_rfl
  have HC := Lib.hid hc
  obtain ⟨r, hr⟩ : ∃ r, decide (okK m l) = r := ⟨_, rfl⟩
  rw [hr]
  have HR := Lib.hid hr
  unfold maxLen at hl
  clear hc hr
  go_enter Try.func49, Try.ntmps49
  go_wp2
  go_loopw [5] (fun i wr => ∃ k : Nat, k ≤ l.length ∧ i = .int .i64 k ∧ Hid (okK m (l.take k) ∧ Gr W wr)) (fun i _ => l.length - (intOf i).toNat)
  case atStart => exact ⟨0, by omega, rfl, Lib.hid ⟨List.Pairwise.nil, Gr.refl _⟩⟩
  case round =>
    obtain ⟨i, hi, rfl, HI⟩ := hrel
    by_cases hlt : i < l.length
    · obtain ⟨x, hx⟩ : ∃ x, l.getD i (0, 0) = x := ⟨_, rfl⟩
      have HX := Lib.hid hx
      have cx := HC.out i hlt
      rw [hx] at cx
      have HCX := Lib.hid cx
      clear cx hx
      go_wp2
      go_loopw [6] (fun k wr => ∃ j : Nat, j ≤ i ∧ k = .int .i64 j ∧ Hid ((∀ t, t < j → ltK m (l.getD t (0, 0)) x = true ∧ (l.getD t (0, 0)).2 ≠ x.2) ∧ Gr W wr)) (fun k _ => i - (intOf k).toNat)
      case atStart => exact ⟨0, by omega, rfl, Lib.hid ⟨fun t ht => absurd ht (Nat.not_lt_zero _), HI.out.2⟩⟩
      case round =>
        obtain ⟨j, hj, rfl, HJ⟩ := hrel
        by_cases hjl : j < i
        · obtain ⟨y, hy⟩ : ∃ y, l.getD j (0, 0) = y := ⟨_, rfl⟩
          have cy := HC.out j (by omega)
          rw [hy] at cy
          have HY := Lib.hid hy
          have f0 : ∀ n os, (grow (wr.drewN n) os).cell? ⟨b, off + i * 2, none⟩ = some (.int .u64 x.1) := fun n os => Gr.cell ⟨n, os, rfl⟩ (HJ.out.2.cell HCX.out.1)
          have f1 : ∀ n os, (grow (wr.drewN n) os).cell? ⟨b, off + i * 2 + 1, none⟩ = some (.int .i64 x.2) := fun n os => Gr.cell ⟨n, os, rfl⟩ (HJ.out.2.cell HCX.out.2)
          have f2 : ∀ n os, (grow (wr.drewN n) os).cell? ⟨b, off + j * 2, none⟩ = some (.int .u64 y.1) := fun n os => Gr.cell ⟨n, os, rfl⟩ (HJ.out.2.cell cy.1)
          have f3 : ∀ n os, (grow (wr.drewN n) os).cell? ⟨b, off + j * 2 + 1, none⟩ = some (.int .i64 y.2) := fun n os => Gr.cell ⟨n, os, rfl⟩ (HJ.out.2.cell cy.2)
          obtain ⟨q, hq⟩ : ∃ q, ltK m y x = q := ⟨_, rfl⟩
          have hcg : ∀ n os, Calls Try.prog 37 #[.int .u64 m, .agg #[.int .u64 y.1, .int .i64 y.2], .agg #[.int .u64 x.1, .int .i64 x.2]] (grow (wr.drewN n) os) fun e w' => e = .returned (.bool q) ∧ ∃ q' os', w' = grow ((grow (wr.drewN n) os).drewN q') os' := fun n os => by
            rw [← hq]; exact rless_gr m y x _
          have HQ := Lib.hid hq
          have hil : i < l.length := hlt
          have hjl2 : j < l.length := by omega
          clear cy hy hq
          cases q with
          | false =>
            have HD : Hid (r = false) := Lib.hid (by
              rw [← HR.out]
              refine decide_eq_false fun ho => ?_
              have := (okK_at ho hjl hil).1
              rw [HX.out, HY.out, HQ.out] at this
              cases this)
            go_wp2_with fail
            go_quiet_grown (first | (go_at_call 37; refine Calls.grown_of (hcg _ _)))
            have HG : Hid (Gr W (grow (wr.drewN nq) osq)) := Lib.hid (HJ.out.2.trans ⟨nq, osq, rfl⟩)
            clear f0 f1 f2 f3 hcg
            generalize grow (wr.drewN nq) osq = w1 at HG ⊢
            go_wp2_with fail
            go_quiet (fail)
            go_wp2
            go_ret
            exact ⟨by rw [HD.out]; rfl, HG.out.trans (Gr.drew _ _)⟩
          | true =>
            go_wp2_with fail
            go_quiet_grown (first | (go_at_call 37; refine Calls.grown_of (hcg _ _)))
            have HG : Hid (Gr W (grow (wr.drewN nq) osq)) := Lib.hid (HJ.out.2.trans ⟨nq, osq, rfl⟩)
            have g1 := f1 nq osq
            have g3 := f3 nq osq
            clear f0 f1 f2 f3 hcg
            generalize grow (wr.drewN nq) osq = w1 at HG g1 g3 ⊢
            by_cases he : y.2 = x.2
            · have HD : Hid (r = false) := Lib.hid (by
                rw [← HR.out]
                refine decide_eq_false fun ho => ?_
                have := (okK_at ho hjl hil).2
                rw [HX.out, HY.out] at this
                exact this he)
              have e1 : (y.2 == x.2) = true := by simpa using he
              clear he
              go_wp2_with fail
              go_quiet (fail)
              go_wp2
              go_ret
              exact ⟨by rw [HD.out]; rfl, HG.out.trans (Gr.drew _ _)⟩
            · have HN : Hid (∀ t, t < j + 1 → ltK m (l.getD t (0, 0)) x = true ∧ (l.getD t (0, 0)).2 ≠ x.2) := Lib.hid (fun t ht => by
                rcases (show t < j ∨ t = j by omega) with h | rfl
                · exact HJ.out.1 t h
                · rw [HY.out]; exact ⟨HQ.out, he⟩)
              have e1 : (y.2 == x.2) = false := by simpa using he
              clear he
              go_wp2_with fail
              go_quiet (fail)
              go_wp2
              exact ⟨⟨j + 1, by omega, by go_num, Lib.hid ⟨HN.out, HG.out.trans (Gr.drew _ _)⟩⟩, by simp [intOf]; omega⟩
        · obtain rfl : j = i := by omega
          go_wp2
          refine ⟨⟨j + 1, by omega, by go_num, Lib.hid ⟨?_, HJ.out.2⟩⟩, by simp [intOf]; omega⟩
          refine okK_more hlt HI.out.1 (fun h0 => ?_) (fun t ht => ?_)
          · rw [HX.out]; exact (HJ.out.1 (j - 1) (by omega)).1
          · rw [HX.out]; exact (HJ.out.1 t ht).2
    · obtain rfl : i = l.length := by omega
      have HD : Hid (r = true) := Lib.hid (by
        rw [← HR.out]
        refine decide_eq_true ?_
        have := HI.out.1
        rwa [List.take_length] at this)
      go_wp2
      go_ret
      exact ⟨by rw [HD.out]; rfl, HI.out.2⟩
theorem rsorted_any (m : Int) {W : World} {v : Value} {l : List K} (h : Keys W v l) : Calls Try.prog 49 #[.int .u64 m, v] W fun e w' => e = .returned (.bool (decide (okK m l))) ∧ Gr W w' := by
  rcases h.parts with ⟨rfl, a, cap, rfl⟩ | ⟨hp, b, off, cap, rfl, hcap, hb, hc⟩
  · refine (rsorted_none m a cap W).mono ?_
    rintro e w' ⟨rfl, rfl⟩
    exact ⟨by rw [show decide (okK m []) = true from decide_eq_true List.Pairwise.nil], Gr.refl _⟩
  · exact rsorted_some m (by omega) hc
end Go.Proofs.Ytgjacmkedgbneaa
