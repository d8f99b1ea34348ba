/-
  Contracts of layer 13's small functions (isLoad, isCpu, Gain, areWeights) and of the document's (load, Gain); a slice of those that may go.
-/
import Derived.Test.YtnjbcblhciblcaaSpM
import Derived.Test.YtnjbcblhciblcaaSlG
import Derived.Test.YtnjbcblhciblcaaMskR
import Derived.BigQuiet
import Derived.Deep.QuietTactic
import Derived.WalkSmall
namespace Go.Proofs.Ytnjbcblhciblcaa
open Go.RowKit Go.Shelf Mk Sp

def I6 (n : Int) : Prop := -9223372036854775808 ≤ n ∧ n ≤ 9223372036854775807
/-- Who may go, as it lies. -/
def encC : Enc C where
  n := 3
  f c := [.int .i64 c.id, .int .i64 c.wt, .int .u64 (c.m : Int)]
  d := default
  ok c := I6 c.id ∧ I6 c.wt ∧ V c.m
  pos := by decide
  len _ := rfl
  one c y hy := by
    simp only [List.mem_cons, List.not_mem_nil, or_false] at hy
    rcases hy with rfl | rfl | rfl <;> rfl
abbrev Cs (w : World) (v : Value) (l : List C) : Prop := Els encC w v l
theorem Cs.parts {w : World} {v : Value} {l : List C} (h : Cs w v l) :
    (l = [] ∧ ∃ a cap, v = .slice a 0 cap) ∨ (0 < l.length ∧ ∃ b off cap, v = .slice (some ⟨b, off, none⟩) l.length cap ∧ (l.length ≤ cap ∧ cap ≤ maxLen) ∧ b < w.heap.size ∧
      ∀ i, i < l.length → w.cell? ⟨b, off + i * 3, none⟩ = some (.int .i64 (l.getD i default).id) ∧ w.cell? ⟨b, off + i * 3 + 1, none⟩ = some (.int .i64 (l.getD i default).wt) ∧ w.cell? ⟨b, off + i * 3 + 2, none⟩ = some (.int .u64 ((l.getD i default).m : Int))) := by
  rcases Els.parts h with h1 | ⟨hp, b, off, cap, hv, hm, hb, hc⟩
  · exact .inl h1
  · exact .inr ⟨hp, b, off, cap, hv, hm, hb, fun i hi => ⟨hc i hi 0 (by decide), hc i hi 1 (by decide), hc i hi 2 (by decide)⟩⟩

set_option maxHeartbeats 400000 in
theorem isLoad_any (n : Int) (w : World) : Calls Try.prog 22 #[.int .i64 n] w fun e w' => e = .returned (.bool (isLd n)) ∧ w = w' := by
  by_cases h0 : 0 ≤ n
  · have HR : Hid (isLd n = decide (n ≤ 1099511627776)) := by unfold Hid isLd; simp [h0]
    go_enter Try.func22, Try.ntmps22
    go_wp2
    go_ret
    exact ⟨by rw [HR.out]; rfl, rfl⟩
  · have HR : Hid (isLd n = false) := by unfold Hid isLd; simp [h0]
    go_enter Try.func22, Try.ntmps22
    go_wp2
    go_ret
    exact ⟨by rw [HR.out]; rfl, rfl⟩
set_option maxHeartbeats 400000 in
theorem rload_any (n : Int) (w : World) : Calls Try.prog 25 #[.int .i64 n] w fun e w' => e = .returned (.bool (isLd n)) ∧ w = w' := by
  by_cases h0 : 0 ≤ n
  · have HR : Hid (isLd n = decide (n ≤ 1099511627776)) := by unfold Hid isLd; simp [h0]
    go_enter Try.func25, Try.ntmps25
    go_wp2
    go_ret
    exact ⟨by rw [HR.out]; rfl, rfl⟩
  · have HR : Hid (isLd n = false) := by unfold Hid isLd; simp [h0]
    go_enter Try.func25, Try.ntmps25
    go_wp2
    go_ret
    exact ⟨by rw [HR.out]; rfl, rfl⟩
set_option maxHeartbeats 400000 in
theorem isCpu_any (n : Int) (w : World) : Calls Try.prog 21 #[.int .i64 n] w fun e w' => e = .returned (.bool (decide (0 ≤ n) && decide (n ≤ 63))) ∧ w = w' := by
  by_cases h0 : 0 ≤ n
  · have HR : Hid ((decide (0 ≤ n) && decide (n ≤ 63)) = decide (n < 64)) := by unfold Hid; simp [h0]; omega
    go_enter Try.func21, Try.ntmps21
    go_wp2
    go_ret
    exact ⟨by rw [HR.out]; rfl, rfl⟩
  · have HR : Hid ((decide (0 ≤ n) && decide (n ≤ 63)) = false) := by unfold Hid; simp [h0]
    go_enter Try.func21, Try.ntmps21
    go_wp2
    go_ret
    exact ⟨by rw [HR.out]; rfl, rfl⟩

theorem gain_no1 {h t w : Int} (hh : isLd h = false) : gain h t w = false := by unfold gain; rw [hh]; rfl
theorem gain_no2 {h t w : Int} (hh : isLd t = false) : gain h t w = false := by unfold gain; rw [hh]; simp
theorem gain_no3 {h t w : Int} (hh : ¬ 1 ≤ w) : gain h t w = false := by unfold gain; simp [hh]
theorem gain_no4 {h t w : Int} (hh : ¬ 2 * w ≤ t - h) : gain h t w = false := by unfold gain; simp [hh]

set_option maxHeartbeats 400000 in
theorem gain_any (h t x : Int) (w : World) : Calls Try.prog 13 #[.int .i64 h, .int .i64 t, .int .i64 x] w fun e w' => e = .returned (.bool (gain h t x)) ∧ w = w' := by
  cases hh : isLd h with
  | false =>
    have HR := Lib.hid (gain_no1 (t := t) (w := x) hh)
    have HH := Lib.hid hh
    clear hh
    go_enter Try.func13, Try.ntmps13
    go_wp2_with fail
    refine (isLoad_any h _).mono ?_
    rintro e' w' ⟨rfl, rfl⟩
    rw [HH.out]
    go_wp2
    go_ret
    exact ⟨by rw [HR.out]; rfl, rfl⟩
  | true =>
    cases ht : isLd t with
    | false =>
      have HR := Lib.hid (gain_no2 (h := h) (w := x) ht)
      have HH := Lib.hid hh
      have HT := Lib.hid ht
      clear hh ht
      go_enter Try.func13, Try.ntmps13
      go_wp2_with fail
      refine (isLoad_any h _).mono ?_
      rintro e' w' ⟨rfl, rfl⟩
      rw [HH.out]
      go_wp2_with fail
      refine (isLoad_any t _).mono ?_
      rintro e' w' ⟨rfl, rfl⟩
      rw [HT.out]
      go_wp2
      go_ret
      exact ⟨by rw [HR.out]; rfl, rfl⟩
    | true =>
      have b1 := (isLd_iff _).1 hh
      have b2 := (isLd_iff _).1 ht
      have HH := Lib.hid hh
      have HT := Lib.hid ht
      by_cases h1 : 1 ≤ x
      · have HR : Hid (gain h t x = decide (x ≤ (t - h).tdiv 2)) := by
          unfold Hid gain; rw [hh, ht]; simp only [Bool.true_and, h1, decide_true]; exact decide_eq_decide.2 (half _ _ h1).symm
        clear hh ht
        go_enter Try.func13, Try.ntmps13
        go_wp2_with fail
        refine (isLoad_any h _).mono ?_
        rintro e' w' ⟨rfl, rfl⟩
        rw [HH.out]
        go_wp2_with fail
        refine (isLoad_any t _).mono ?_
        rintro e' w' ⟨rfl, rfl⟩
        rw [HT.out]
        go_wp2
        go_ret
        exact ⟨by rw [HR.out]; rfl, rfl⟩
      · have HR := Lib.hid (gain_no3 (h := h) (t := t) h1)
        clear hh ht
        go_enter Try.func13, Try.ntmps13
        go_wp2_with fail
        refine (isLoad_any h _).mono ?_
        rintro e' w' ⟨rfl, rfl⟩
        rw [HH.out]
        go_wp2_with fail
        refine (isLoad_any t _).mono ?_
        rintro e' w' ⟨rfl, rfl⟩
        rw [HT.out]
        go_wp2
        go_ret
        exact ⟨by rw [HR.out]; rfl, rfl⟩

set_option maxHeartbeats 400000 in
theorem rgain_any (h t x : Int) (w : World) : Calls Try.prog 14 #[.int .i64 h, .int .i64 t, .int .i64 x] w fun e w' => e = .returned (.bool (gain h t x)) ∧ w = w' := by
  cases hh : isLd h with
  | false =>
    have HR := Lib.hid (gain_no1 (t := t) (w := x) hh)
    have HH := Lib.hid hh
    clear hh
    go_enter Try.func14, Try.ntmps14
    go_wp2_with fail
    refine (rload_any h _).mono ?_
    rintro e' w' ⟨rfl, rfl⟩
    rw [HH.out]
    go_wp2
    go_ret
    exact ⟨by rw [HR.out]; rfl, rfl⟩
  | true =>
    cases ht : isLd t with
    | false =>
      have HR := Lib.hid (gain_no2 (h := h) (w := x) ht)
      have HH := Lib.hid hh
      have HT := Lib.hid ht
      clear hh ht
      go_enter Try.func14, Try.ntmps14
      go_wp2_with fail
      refine (rload_any h _).mono ?_
      rintro e' w' ⟨rfl, rfl⟩
      rw [HH.out]
      go_wp2_with fail
      refine (rload_any t _).mono ?_
      rintro e' w' ⟨rfl, rfl⟩
      rw [HT.out]
      go_wp2
      go_ret
      exact ⟨by rw [HR.out]; rfl, rfl⟩
    | true =>
      have b1 := (isLd_iff _).1 hh
      have b2 := (isLd_iff _).1 ht
      have HH := Lib.hid hh
      have HT := Lib.hid ht
      by_cases h1 : 1 ≤ x
      · by_cases h2 : x ≤ 1099511627776
        · have HR : Hid (gain h t x = decide (2 * x ≤ t - h)) := by
            unfold Hid gain; rw [hh, ht]; simp only [Bool.true_and, h1, decide_true]
          clear hh ht
          go_enter Try.func14, Try.ntmps14
          go_wp2_with fail
          refine (rload_any h _).mono ?_
          rintro e' w' ⟨rfl, rfl⟩
          rw [HH.out]
          go_wp2_with fail
          refine (rload_any t _).mono ?_
          rintro e' w' ⟨rfl, rfl⟩
          rw [HT.out]
          go_wp2
          go_ret
          exact ⟨by rw [HR.out]; rfl, rfl⟩
        · have HR := Lib.hid (gain_no4 (h := h) (t := t) (w := x) (by omega))
          clear hh ht
          go_enter Try.func14, Try.ntmps14
          go_wp2_with fail
          refine (rload_any h _).mono ?_
          rintro e' w' ⟨rfl, rfl⟩
          rw [HH.out]
          go_wp2_with fail
          refine (rload_any t _).mono ?_
          rintro e' w' ⟨rfl, rfl⟩
          rw [HT.out]
          go_wp2
          go_ret
          exact ⟨by rw [HR.out]; rfl, rfl⟩
      · have HR := Lib.hid (gain_no3 (h := h) (t := t) h1)
        clear hh ht
        go_enter Try.func14, Try.ntmps14
        go_wp2_with fail
        refine (rload_any h _).mono ?_
        rintro e' w' ⟨rfl, rfl⟩
        rw [HH.out]
        go_wp2_with fail
        refine (rload_any t _).mono ?_
        rintro e' w' ⟨rfl, rfl⟩
        rw [HT.out]
        go_wp2
        go_ret
        exact ⟨by rw [HR.out]; rfl, rfl⟩

/-! ### areWeights -/
theorem wall_step {l : List C} {k : Nat} (hk : k < l.length) (h : (l.take k).all wtOk = true) (h1 : wtOk (l.getD k default) = true) : (l.take (k + 1)).all wtOk = true := by
  rw [List.take_succ_eq_append_getElem hk, List.all_append, h]
  have e : l.getD k default = l[k] := by simp [List.getD, hk]
  rw [e] at h1
  simp [h1]
theorem wall_not {l : List C} {k : Nat} (hk : k < l.length) (h1 : wtOk (l.getD k default) = false) : l.all wtOk = false := by
  rw [List.all_eq_false]
  have e : l.getD k default = l[k] := by simp [List.getD, hk]
  rw [e] at h1
  exact ⟨l[k], List.getElem_mem hk, by simp [h1]⟩

set_option maxHeartbeats 1000000 in
theorem areWeights_any (v : Value) (l : List C) (w : World) (hv : Cs w v l) :
    Calls Try.prog 23 #[v] w fun e w' => e = .returned (.bool (l.all wtOk)) ∧ Below w.heap.size w w' := by
  rcases Cs.parts hv with ⟨rfl, a, cap, rfl⟩ | ⟨hp, b, off, cap, rfl, hm, hbw, hc⟩
  · clear hv
    go_enter Try.func23, Try.ntmps23
    go_wp2
    go_loop [7] (fun i => i = .int .i64 0) (fun _ => 0)
    case atStart => rfl
    case round =>
      subst hrel
      go_wp2
      go_ret
      exact ⟨rfl, Below.refl _ _⟩
  · clear hv
    have hml : cap ≤ 9223372036854775807 := by have := hm.2; unfold maxLen at this; omega
    have hm1 := hm.1
    obtain ⟨n, hn⟩ : ∃ n, l.length = n := ⟨_, rfl⟩
    rw [hn] at hp hm1 hc ⊢
    have HN := Lib.hid hn
    clear hm hn
    go_enter Try.func23, Try.ntmps23
    go_wp2
    go_loopw [4, 7] (fun u i wr => ∃ k : Nat, k ≤ n ∧ i = .int .i64 k ∧ (l.take k).all wtOk = true ∧ Below w.heap.size w wr) (fun _ i _ => n - (intOf i).toNat)
    case atStart => exact ⟨0, by omega, rfl, rfl, Below.refl _ _⟩
    case round =>
      obtain ⟨k, hk, rfl, hall, hnx⟩ := hrel
      by_cases hlt : k < n
      · obtain ⟨c0, c1, c2⟩ := hc k hlt
        rw [← hnx.cell (p := ⟨b, off + k * 3, none⟩) hbw] at c0
        rw [← hnx.cell (p := ⟨b, off + k * 3 + 1, none⟩) hbw] at c1
        rw [← hnx.cell (p := ⟨b, off + k * 3 + 2, none⟩) hbw] at c2
        have HK : Hid (k < l.length) := by unfold Hid; rw [HN.out]; exact hlt
        have HA := Lib.hid hall
        clear hc hall
        cases hw : wtOk (l.getD k default) with
        | true =>
          have HS := Lib.hid (wall_step HK.out HA.out hw)
          have hb := (wtOk_iff _).1 hw
          clear hw
          generalize l.getD k default = c at *
          obtain ⟨ci, cw, cm⟩ := c
          simp only at c0 c1 c2 hb
          go_wp2
          exact ⟨⟨k + 1, by omega, by go_num, HS.out, hnx.alloc hnx.size _⟩, by simp [intOf]; omega⟩
        | false =>
          have HS := Lib.hid (wall_not HK.out hw)
          have hb : ¬ (1 ≤ (l.getD k default).wt ∧ (l.getD k default).wt ≤ 88761) := fun h => by rw [(wtOk_iff _).2 h] at hw; cases hw
          clear hw
          generalize l.getD k default = c at *
          obtain ⟨ci, cw, cm⟩ := c
          simp only at c0 c1 c2 hb
          by_cases h1 : cw < 1
          · go_wp2
            go_ret
            exact ⟨by rw [HS.out]; rfl, hnx.alloc hnx.size _⟩
          · have h2 : 88761 < cw := by omega
            go_wp2
            go_ret
            exact ⟨by rw [HS.out]; rfl, hnx.alloc hnx.size _⟩
      · obtain rfl : k = n := by omega
        have HS : Hid (l.all wtOk = true) := by unfold Hid; have := hall; rwa [← HN.out, List.take_length] at this
        clear hc
        go_wp2
        go_ret
        exact ⟨by rw [HS.out]; rfl, hnx⟩
end Go.Proofs.Ytnjbcblhciblcaa
