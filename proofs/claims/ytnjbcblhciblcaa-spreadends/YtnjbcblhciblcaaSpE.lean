/-
  Plain facts of the foremost: no other one is ahead of it, and it is the first of those that are as far.
-/
import Derived.Test.YtnjbcblhciblcaaSpM
namespace Go.Proofs.Ytnjbcblhciblcaa.Sp

theorem gt_spec (but : Int) (zs : List Int) : ∀ k, (fm gtB but zs k = none → ∀ i : Nat, i < k → (i : Int) = but) ∧ (∀ p, fm gtB but zs k = some p → ¬ (p : Int) = but ∧ ∀ i : Nat, i < k → ¬ (i : Int) = but → zs.getD i 0 ≤ zs.getD p 0 ∧ (zs.getD i 0 = zs.getD p 0 → p ≤ i))
  | 0 => ⟨fun _ i hi => absurd hi (Nat.not_lt_zero _), fun p h => by simp [fm] at h⟩
  | k + 1 => by
    obtain ⟨h1, h2⟩ := gt_spec but zs k
    by_cases hb : (k : Int) = but
    · rw [fm_but k hb]
      refine ⟨fun hn i hi => ?_, fun p hp => ⟨(h2 p hp).1, fun i hi hne => ?_⟩⟩
      · by_cases e : i = k
        · subst e; exact hb
        · exact h1 hn i (by omega)
      · exact (h2 p hp).2 i (by omega) hne
    · cases ho : fm gtB but zs k with
      | none =>
        rw [fm_first k hb ho]
        refine ⟨fun hn => (Option.some_ne_none _ hn).elim, fun p hp => ?_⟩
        obtain rfl : k = p := Option.some.inj hp
        refine ⟨hb, fun i hi hne => ?_⟩
        by_cases e : i = k
        · subst e; exact ⟨Int.le_refl _, fun _ => Nat.le_refl _⟩
        · exact absurd (h1 ho i (by omega)) hne
      | some q =>
        obtain ⟨h3, h4⟩ := h2 q ho
        cases hl : gtB (zs.getD k 0) (zs.getD q 0) with
        | true =>
          rw [fm_yes k hb ho hl]
          have hl' := of_decide_eq_true hl
          refine ⟨fun hn => (Option.some_ne_none _ hn).elim, fun p hp => ?_⟩
          obtain rfl : k = p := Option.some.inj hp
          refine ⟨hb, fun i hi hne => ?_⟩
          by_cases e : i = k
          · subst e; exact ⟨Int.le_refl _, fun _ => Nat.le_refl _⟩
          · have := (h4 i (by omega) hne).1
            exact ⟨by omega, fun e => by omega⟩
        | false =>
          rw [fm_no k ho hl, ho]
          have hl' := of_decide_eq_false hl
          refine ⟨fun hn => (Option.some_ne_none _ hn).elim, fun p hp => ?_⟩
          obtain rfl : q = p := Option.some.inj hp
          refine ⟨h3, fun i hi hne => ?_⟩
          by_cases e : i = k
          · subst e
            have := fm_lt ho
            exact ⟨by omega, fun e => by omega⟩
          · exact h4 i (by omega) hne

theorem lt_spec (but : Int) (zs : List Int) : ∀ k, (fm ltB but zs k = none → ∀ i : Nat, i < k → (i : Int) = but) ∧ (∀ p, fm ltB but zs k = some p → ¬ (p : Int) = but ∧ ∀ i : Nat, i < k → ¬ (i : Int) = but → zs.getD p 0 ≤ zs.getD i 0 ∧ (zs.getD i 0 = zs.getD p 0 → p ≤ i))
  | 0 => ⟨fun _ i hi => absurd hi (Nat.not_lt_zero _), fun p h => by simp [fm] at h⟩
  | k + 1 => by
    obtain ⟨h1, h2⟩ := lt_spec but zs k
    by_cases hb : (k : Int) = but
    · rw [fm_but k hb]
      refine ⟨fun hn i hi => ?_, fun p hp => ⟨(h2 p hp).1, fun i hi hne => ?_⟩⟩
      · by_cases e : i = k
        · subst e; exact hb
        · exact h1 hn i (by omega)
      · exact (h2 p hp).2 i (by omega) hne
    · cases ho : fm ltB but zs k with
      | none =>
        rw [fm_first k hb ho]
        refine ⟨fun hn => (Option.some_ne_none _ hn).elim, fun p hp => ?_⟩
        obtain rfl : k = p := Option.some.inj hp
        refine ⟨hb, fun i hi hne => ?_⟩
        by_cases e : i = k
        · subst e; exact ⟨Int.le_refl _, fun _ => Nat.le_refl _⟩
        · exact absurd (h1 ho i (by omega)) hne
      | some q =>
        obtain ⟨h3, h4⟩ := h2 q ho
        cases hl : ltB (zs.getD k 0) (zs.getD q 0) with
        | true =>
          rw [fm_yes k hb ho hl]
          have hl' := of_decide_eq_true hl
          refine ⟨fun hn => (Option.some_ne_none _ hn).elim, fun p hp => ?_⟩
          obtain rfl : k = p := Option.some.inj hp
          refine ⟨hb, fun i hi hne => ?_⟩
          by_cases e : i = k
          · subst e; exact ⟨Int.le_refl _, fun _ => Nat.le_refl _⟩
          · have := (h4 i (by omega) hne).1
            exact ⟨by omega, fun e => by omega⟩
        | false =>
          rw [fm_no k ho hl, ho]
          have hl' := of_decide_eq_false hl
          refine ⟨fun hn => (Option.some_ne_none _ hn).elim, fun p hp => ?_⟩
          obtain rfl : q = p := Option.some.inj hp
          refine ⟨h3, fun i hi hne => ?_⟩
          by_cases e : i = k
          · subst e
            have := fm_lt ho
            exact ⟨by omega, fun e => by omega⟩
          · exact h4 i (by omega) hne

theorem fm_some {lt : Int → Int → Bool} {but : Int} {zs : List Int} : ∀ k, (fm lt but zs k).isSome = true ↔ ∃ i : Nat, i < k ∧ ¬ (i : Int) = but
  | 0 => by simp [fm]
  | k + 1 => by
    have ih := fm_some (lt := lt) (but := but) (zs := zs) k
    by_cases hb : (k : Int) = but
    · rw [fm_but k hb, ih]
      exact ⟨fun ⟨i, h1, h2⟩ => ⟨i, by omega, h2⟩, fun ⟨i, h1, h2⟩ => ⟨i, by by_cases e : i = k; (subst e; exact absurd hb h2); omega, h2⟩⟩
    · refine ⟨fun _ => ⟨k, by omega, hb⟩, fun _ => ?_⟩
      cases ho : fm lt but zs k with
      | none => rw [fm_first k hb ho]; rfl
      | some q =>
        cases hl : lt (zs.getD k 0) (zs.getD q 0) with
        | true => rw [fm_yes k hb ho hl]; rfl
        | false => rw [fm_no k ho hl, ho]; rfl
/-- How many others there are. -/
def others (but : Int) (n : Nat) : Int := if 0 ≤ but ∧ but < n then (n : Int) - 1 else n
theorem others_pos (but : Int) (n : Nat) : 0 < others but n ↔ ∃ i : Nat, i < n ∧ ¬ (i : Int) = but := by
  unfold others
  split
  · rename_i h
    constructor
    · intro hp
      by_cases h0 : but = 0
      · exact ⟨1, by omega, by omega⟩
      · exact ⟨0, by omega, by omega⟩
    · rintro ⟨i, h1, h2⟩; omega
  · rename_i h
    constructor
    · intro hp; exact ⟨0, by omega, by omega⟩
    · rintro ⟨i, h1, h2⟩; omega
end Go.Proofs.Ytnjbcblhciblcaa.Sp
