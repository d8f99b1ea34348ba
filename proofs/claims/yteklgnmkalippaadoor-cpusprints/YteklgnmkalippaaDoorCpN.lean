/-
  Plain facts on the runs of a mask, one after the other (nothing of the program is imported here).
-/
import Derived.Test.YteklgnmkalippaaDoorCpM
namespace Go.Proofs.YteklgnmkalippaaDoor
namespace Cp
open Mk

/-! ### run after run -/
theorem runs_skip (m p q : Nat) (hpq : p ≤ q) (h : ∀ i, p ≤ i → i < q → starts m i = false) : runsTo m q = runsTo m p := by
  obtain ⟨d, rfl⟩ : ∃ d, q = p + d := ⟨q - p, by omega⟩
  clear hpq
  induction d with
  | zero => rfl
  | succ d ih =>
    rw [← Nat.add_assoc, runsTo_succ, h (p + d) (by omega) (by omega), ih fun i h1 h2 => h i h1 (by omega)]
    simp
theorem above_mem {m : Nat} (hm : V m) (e : Int) (i : Nat) : i ∈ above m e ↔ m.testBit i = true ∧ e < (i : Int) := by
  unfold above
  rw [List.mem_filter, mem_cpus hm]
  simp
theorem above_rise (m : Nat) (e : Int) : (above m e).Pairwise (· < ·) := (cpus_rise m).filter _
theorem above_least {m : Nat} (hm : V m) {e : Int} {c : Nat} {t : List Nat} (h : above m e = c :: t) : m.testBit c = true ∧ e < (c : Int) ∧ c < 64 ∧ ∀ i : Nat, e < (i : Int) → i < c → m.testBit i = false := by
  have hc := (above_mem hm e c).1 (by rw [h]; simp)
  have hlt : c < 64 := by
    by_cases hlt : c < 64
    · exact hlt
    · have := hc.1; rw [hi_bit hm (by omega)] at this; cases this
  refine ⟨hc.1, hc.2, hlt, fun i h1 h2 => ?_⟩
  cases hb : m.testBit i with
  | false => rfl
  | true =>
    have hi := (above_mem hm e i).2 ⟨hb, h1⟩
    have hp := above_rise m e
    rw [h] at hi hp
    rw [List.pairwise_cons] at hp
    rcases List.mem_cons.1 hi with e1 | e1
    · omega
    · have := hp.1 i e1; omega
theorem above_none {m : Nat} (hm : V m) {e : Int} (h : above m e = []) (i : Nat) (hi : e < (i : Int)) : m.testBit i = false := by
  cases hb : m.testBit i with
  | false => rfl
  | true => have := (above_mem hm e i).2 ⟨hb, hi⟩; rw [h] at this; cases this
theorem no_start {m i : Nat} (h : m.testBit i = false) : starts m i = false := by unfold starts; rw [h]; rfl
theorem no_start' {m i : Nat} (h0 : 0 < i) (h : m.testBit (i - 1) = true) : starts m i = false := by unfold starts; rw [h]; simp; omega
theorem first_run {m c : Nat} {t : List Nat} (hm : V m) (h : cpus m = c :: t) : c < 64 ∧ starts m c = true ∧ runsTo m c = [] := by
  rw [← above_lo] at h
  obtain ⟨h1, -, h3, h4⟩ := above_least hm h
  refine ⟨h3, ?_, ?_⟩
  · unfold starts
    rw [h1]
    by_cases h0 : 0 < c
    · rw [h4 (c - 1) (by omega) (by omega)]; simp
    · have : c = 0 := by omega
      subst this; rfl
  · rw [runs_skip m 0 c (Nat.zero_le _) fun i _ h => no_start (h4 i (by omega) h)]; rfl
theorem next_run {m a c : Nat} {t : List Nat} (hm : V m) (ha : starts m a = true) (h : above m (lastOf m a : Nat) = c :: t) : c < 64 ∧ a < c ∧ starts m c = true ∧ runsTo m c = runsTo m a ++ [rnTxt a (lastOf m a)] := by
  obtain ⟨h1, h2, h3, h4⟩ := above_least hm h
  obtain ⟨l1, -, l3, l4⟩ := last_spec hm (starts_bit ha)
  have hne : c ≠ lastOf m a + 1 := by rintro rfl; rw [h1] at l4; cases l4
  refine ⟨h3, by omega, ?_, ?_⟩
  · unfold starts
    rw [h1, h4 (c - 1) (by omega) (by omega)]; simp
  · rw [runs_skip m (a + 1) c (by omega) fun i g1 g2 => ?_, runsTo_succ, ha]
    · rfl
    · by_cases hi : i ≤ lastOf m a
      · exact no_start' (by omega) (l3 (i - 1) (by omega) (by omega))
      · exact no_start (h4 i (by omega) g2)
theorem last_run {m a : Nat} (hm : V m) (ha : starts m a = true) (h : above m (lastOf m a : Nat) = []) : runsTo m 64 = runsTo m a ++ [rnTxt a (lastOf m a)] := by
  obtain ⟨l1, l2, l3, l4⟩ := last_spec hm (starts_bit ha)
  rw [runs_skip m (a + 1) 64 (by omega) fun i g1 g2 => ?_, runsTo_succ, ha]
  · rfl
  · by_cases hi : i ≤ lastOf m a
    · exact no_start' (by omega) (l3 (i - 1) (by omega) (by omega))
    · exact no_start (above_none hm h i (by omega))
theorem runs_le (m c : Nat) (h : c ≤ 64) : (runsTo m c).length ≤ 33 := by
  have := (runs_count m c).1
  omega
end Cp
end Go.Proofs.YteklgnmkalippaaDoor
