/-
  Contracts of turnspitref08: the document's own answers for keys.
-/
import Derived.Test.YtgjacmkedgbneaaKyF
import Derived.Test.YtgjacmkedgbneaaKyB
import Derived.Laws.StructEq
namespace Go.Proofs.Ytgjacmkedgbneaa
open Go.RowKit Go.Sort Wd Tn Ky

theorem key_struct : Try.prog.underlying 27 = some (.struct (Try.prog.fieldsOf 27)) := by kernel_rfl
theorem key_held : Try.prog.stoodInHeld 27 = false := by kernel_rfl

set_option maxHeartbeats 400000 in
theorem same_len {W : World} {la lb : List K} {a b : Option Addr} {ca cb : Nat} (hne : la.length ≠ lb.length) :
    Calls Try.prog 20 #[.slice a la.length ca, .slice b lb.length cb] W fun e w' => e = .returned (.bool false) ∧ W = w' := by
  have hd : (((la.length : Nat) : Int) != ((lb.length : Nat) : Int)) = true := by simp; omega
  go_enter Try.func20, Try.ntmps20
  go_wp2
  go_ret
  exact ⟨rfl, rfl⟩

set_option maxHeartbeats 400000 in
set_option maxRecDepth 100000 in
theorem same_some {W : World} {la lb : List K} {b off c b' off' c' : Nat} (hl : la.length = lb.length) (hm : la.length ≤ maxLen)
    (ha : ∀ i, i < la.length → W.cell? ⟨b, off + i * 2, none⟩ = some (.int .u64 (la.getD i (0, 0)).1) ∧ W.cell? ⟨b, off + i * 2 + 1, none⟩ = some (.int .i64 (la.getD i (0, 0)).2))
    (hb : ∀ i, i < lb.length → W.cell? ⟨b', off' + i * 2, none⟩ = some (.int .u64 (lb.getD i (0, 0)).1) ∧ W.cell? ⟨b', off' + i * 2 + 1, none⟩ = some (.int .i64 (lb.getD i (0, 0)).2)) :
    Calls Try.prog 20 #[.slice (some ⟨b, off, none⟩) la.length c, .slice (some ⟨b', off', none⟩) lb.length c'] W fun e w' => e = .returned (.bool (decide (la = lb))) ∧ Gr W w' := by
  have HA := Lib.hid ha
  have HB := Lib.hid hb
  have HL := Lib.hid hl
  rw [← hl]
  obtain ⟨n, hn⟩ : ∃ n, la.length = n := ⟨_, rfl⟩
  rw [hn]
  have HN := Lib.hid hn
  rw [hn] at hm
  unfold maxLen at hm
  clear ha hb hl hn
  obtain ⟨r, hr⟩ : ∃ r, decide (la = lb) = r := ⟨_, rfl⟩
  rw [hr]
  have HR := Lib.hid hr
  clear hr
  go_enter Try.func20, Try.ntmps20
  go_wp2
  go_loopw [5] (fun i wr => ∃ k : Nat, k ≤ n ∧ i = .int .i64 k ∧ Hid (la.take k = lb.take k ∧ Gr W wr)) (fun i _ => n - (intOf i).toNat)
  case atStart => exact ⟨0, by omega, rfl, Lib.hid ⟨rfl, Gr.refl _⟩⟩
  case round =>
    obtain ⟨k, hk, rfl, HK⟩ := hrel
    by_cases hlt : k < n
    · obtain ⟨x, hx⟩ : ∃ x, la.getD k (0, 0) = x := ⟨_, rfl⟩
      obtain ⟨y, hy⟩ : ∃ y, lb.getD k (0, 0) = y := ⟨_, rfl⟩
      have p := HA.out k (by rw [HN.out]; exact hlt)
      have q := HB.out k (by rw [← HL.out, HN.out]; exact hlt)
      rw [hx] at p
      rw [hy] at q
      have p0 := HK.out.2.cell p.1
      have p1 := HK.out.2.cell p.2
      have q0 := HK.out.2.cell q.1
      have q1 := HK.out.2.cell q.2
      have HX := Lib.hid hx
      have HY := Lib.hid hy
      clear p q hx hy
      by_cases hxy : x = y
      · subst hxy
        have e1 : (x.1 == x.1) = true := by simp
        have e2 : (x.2 == x.2) = true := by simp
        go_wp2_with fail
        go_quiet (fail)
        go_wp2
        refine ⟨⟨k + 1, by omega, by go_num, Lib.hid ⟨?_, HK.out.2.trans (Gr.drew _ _)⟩⟩, by simp [intOf]; omega⟩
        have g1 : k < la.length := by rw [HN.out]; exact hlt
        have g2 : k < lb.length := by rw [← HL.out, HN.out]; exact hlt
        rw [List.take_add_one, List.take_add_one, HK.out.1, List.getElem?_eq_getElem g1, List.getElem?_eq_getElem g2]
        have h1 := HX.out
        have h2 := HY.out
        simp only [List.getD, List.getElem?_eq_getElem g1, List.getElem?_eq_getElem g2, Option.getD_some] at h1 h2
        rw [h1, h2]
      · have HD : Hid (r = false) := Lib.hid (by
          rw [← HR.out]
          refine decide_eq_false fun e => hxy ?_
          rw [← HX.out, ← HY.out, e])
        by_cases h1 : x.1 = y.1
        · have h2 : x.2 ≠ y.2 := fun h => hxy (Prod.ext h1 h)
          have e1 : (x.1 == y.1) = true := by simpa using h1
          have e2 : (x.2 == y.2) = false := by simpa using h2
          clear h1 h2 hxy
          go_wp2_with fail
          go_quiet (fail)
          go_wp2
          go_ret
          exact ⟨by rw [HD.out]; rfl, HK.out.2.trans (Gr.drew _ _)⟩
        · have e1 : (x.1 == y.1) = false := by simpa using h1
          clear h1 hxy
          go_wp2_with fail
          go_quiet (fail)
          go_wp2
          go_ret
          exact ⟨by rw [HD.out]; rfl, HK.out.2.trans (Gr.drew _ _)⟩
    · obtain rfl : k = n := by omega
      have HD : Hid (r = true) := Lib.hid (by
        rw [← HR.out]
        refine decide_eq_true ?_
        have := HK.out.1
        rwa [List.take_of_length_le (by rw [HN.out]; exact Nat.le_refl _), List.take_of_length_le (by rw [← HL.out, HN.out]; exact Nat.le_refl _)] at this)
      go_wp2
      go_ret
      exact ⟨by rw [HD.out]; rfl, HK.out.2⟩

theorem same_none {W : World} {a b : Option Addr} {ca cb : Nat} : Calls Try.prog 20 #[.slice a 0 ca, .slice b 0 cb] W fun e w' => e = .returned (.bool true) ∧ W = w' := by
  go_enter Try.func20, Try.ntmps20
  go_wp2
  refine wp_loop_rounds 1 ?_
  rw [rounds_succ]
  go_wp2
  go_ret
  exact ⟨rfl, rfl⟩
theorem same_any {W : World} {va vb : Value} {la lb : List K} (ha : Keys W va la) (hb : Keys W vb lb) :
    Calls Try.prog 20 #[va, vb] W fun e w' => e = .returned (.bool (decide (la = lb))) ∧ Gr W w' := by
  have ha0 := ha
  have hb0 := hb
  obtain ⟨a, ca, rfl, hma, -, -⟩ := ha0
  obtain ⟨b, cb, rfl, hmb, -, -⟩ := hb0
  by_cases hl : la.length = lb.length
  · rcases ha.parts with ⟨rfl, a', ca', e1⟩ | ⟨hp, b1, off1, c1, e1, -, -, hc1⟩
    · obtain rfl : lb = [] := List.eq_nil_of_length_eq_zero hl.symm
      refine same_none.mono ?_
      rintro e w' ⟨rfl, rfl⟩
      exact ⟨by simp, Gr.refl _⟩
    · rcases hb.parts with ⟨rfl, b', cb', e2⟩ | ⟨hp2, b2, off2, c2, e2, -, -, hc2⟩
      · rw [hl] at hp; exact absurd hp (Nat.lt_irrefl _)
      · simp only [Value.slice.injEq] at e1 e2
        obtain ⟨rfl, -, rfl⟩ := e1
        obtain ⟨rfl, -, rfl⟩ := e2
        exact same_some hl (by omega) hc1 hc2
  · refine (same_len hl).mono ?_
    rintro e w' ⟨rfl, rfl⟩
    exact ⟨by rw [decide_eq_false (fun e => hl (by rw [e]))], Gr.refl _⟩
end Go.Proofs.Ytgjacmkedgbneaa
