/-
  Plain facts on going round: all that a mask has are come by, each once, and then the first of them again.
-/
import Derived.Test.YtjdedfbgnakooaaDoorMskN
namespace Go.Proofs.YtjdedfbgnakooaaDoor
namespace Mk

/-- a is the least one above c, or, if there is none, the least one of all. -/
def Rn (m : Nat) (c a : Int) : Prop :=
  has m a = true ∧ ((c < a ∧ ∀ d, has m d = true → c < d → a ≤ d) ∨ ((∀ d, has m d = true → d ≤ c) ∧ ∀ d, has m d = true → a ≤ d))

theorem rnd_some {m : Nat} (hm : V m) (c : Int) (h : 0 < cnt m) : ∃ (a : Nat) (t : List Nat), rndL m c = a :: t ∧ Rn m c (a : Int) := by
  unfold rndL
  cases hL : above m c with
  | cons a t =>
    obtain ⟨h1, h2, h3⟩ := above_head hm hL
    refine ⟨a, t, rfl, h2, .inl ⟨h1, fun d hd hc => ?_⟩⟩
    by_cases hlt : d < (a : Int)
    · rw [h3 d hc hlt] at hd; cases hd
    · omega
  | nil =>
    have hn : ∀ d, has m d = true → d ≤ c := fun d hd => by
      by_cases hlt : c < d
      · rw [above_nil hm hL d hlt] at hd; cases hd
      · omega
    cases hC : cpus m with
    | nil => unfold cnt at h; rw [hC] at h; cases h
    | cons a t =>
      obtain ⟨h1, h2⟩ := cpus_head hm hC
      refine ⟨a, t, rfl, h1, .inr ⟨hn, fun d hd => ?_⟩⟩
      by_cases hlt : d < (a : Int)
      · rw [h2 d hlt] at hd; cases hd
      · omega
theorem rnd_none {m : Nat} (hm : V m) (c : Int) (h : cnt m = 0) : rndL m c = [] := by
  have hC : cpus m = [] := List.eq_nil_of_length_eq_zero h
  have : m = 0 := cpus_nil hm hC
  unfold rndL above
  rw [hC]; rfl

/-- what lies from c on, up to the one at which one is. -/
def Arc (c at' d : Int) : Prop := (c < at' ∧ c < d ∧ d ≤ at') ∨ (at' ≤ c ∧ (c < d ∨ d ≤ at'))

structure Inv (m : Nat) (c : Int) (k seen : Nat) (at' f : Int) : Prop where
  v : V seen
  n : cnt seen = k
  s : (k = 0 ∧ seen = 0 ∧ at' = c) ∨ (0 < k ∧ has m at' = true ∧ Rn m c f ∧ ∀ d, has seen d = true ↔ has m d = true ∧ Arc c at' d)

theorem inv_zero (m : Nat) (c : Int) : Inv m c 0 0 c 0 := ⟨V_zero, cnt_zero, .inl ⟨rfl, rfl, rfl⟩⟩

theorem has_ext {x y : Nat} (hx : V x) (hy : V y) (h : ∀ d, has x d = true ↔ has y d = true) : x = y := by
  refine ext hx hy fun i _ => ?_
  have := h (i : Int)
  rw [has_at, has_at] at this
  cases h1 : x.testBit i <;> cases h2 : y.testBit i <;> simp_all
theorem has_zero (d : Int) : has 0 d = false := by simp [has]
theorem has_put (x : Nat) (a d : Int) (ha : 0 ≤ a ∧ a < 64) : has (wit x a) d = true ↔ has x d = true ∨ d = a := by
  rw [has_wit]
  by_cases e : a = d
  · subst e; simp [ha]
  · have e' : ¬ d = a := fun h => e h.symm
    simp [e, e']

/-- as many, of what it has: all. -/
theorem sub_all {m s : Nat} (hm : V m) (hs : V s) (h : ∀ d, has s d = true → has m d = true) (hc : cnt s = cnt m) : s = m := by
  have e1 : m &&& s = s := by
    refine ext (V_and hm) hs fun i _ => ?_
    rw [Nat.testBit_and]
    have := h (i : Int)
    rw [has_at, has_at] at this
    cases h1 : s.testBit i <;> cases h2 : m.testBit i <;> simp_all
  have h1 := cnt_parts m s hm hs
  rw [e1] at h1
  have h2 : cnt (andN m s) = 0 := by omega
  have h3 : andN m s = 0 := cpus_nil (V_andN hm) (List.eq_nil_of_length_eq_zero h2)
  refine ext hs hm fun i _ => ?_
  have h4 := tb_andN m s hm hs i
  rw [h3, Nat.zero_testBit] at h4
  have := h (i : Int)
  rw [has_at, has_at] at this
  cases h5 : s.testBit i <;> cases h6 : m.testBit i <;> simp_all

theorem inv_step {m : Nat} (hm : V m) {c : Int} {k seen : Nat} {at' f : Int} (I : Inv m c k seen at' f) (hk : k < cnt m) :
    ∃ (a : Nat) (t : List Nat), rndL m at' = a :: t ∧ has seen (a : Int) = false ∧ has m (a : Int) = true ∧ (k = 0 → Inv m c (k + 1) (wit seen (a : Int)) (a : Int) (a : Int)) ∧ (k ≠ 0 → Inv m c (k + 1) (wit seen (a : Int)) (a : Int) f) := by
  obtain ⟨a, t, hL, hR⟩ := rnd_some hm at' (by omega)
  obtain ⟨hv, hn, hs⟩ := I
  have ha := has_lt hm hR.1
  refine ⟨a, t, hL, ?_⟩
  generalize (a : Int) = z at *
  rcases hs with ⟨rfl, rfl, rfl⟩ | ⟨hk0, hat, hf, hs⟩
  · refine ⟨has_zero _, hR.1, fun _ => ⟨V_wit V_zero _, ?_, .inr ⟨by omega, hR.1, hR, fun d => ?_⟩⟩, fun h => absurd rfl h⟩
    · rw [cnt_wit 0 V_zero z (has_zero _) (by unfold isCpu; simp; omega), cnt_zero]
    · rw [has_put 0 z d ha, has_zero]
      constructor
      · rintro (h | rfl)
        · cases h
        · refine ⟨hR.1, ?_⟩
          unfold Arc
          rcases hR.2 with ⟨h1, _⟩ | ⟨h1, _⟩
          · omega
          · have := h1 d hR.1; omega
      · rintro ⟨h1, h2⟩
        refine .inr ?_
        unfold Arc at h2
        rcases hR.2 with ⟨h3, h4⟩ | ⟨h3, h4⟩
        · have := h4 d h1; omega
        · have := h3 d h1; have := h4 d h1; have := h3 z hR.1; omega
  · -- were all come by already, as many had come
    have hnot : ¬ ∀ d, has m d = true → Arc c at' d := fun hall => by
      have e : seen = m := has_ext hv hm fun d => by
        rw [hs d]; exact ⟨fun h => h.1, fun h => ⟨h, hall d h⟩⟩
      rw [e] at hn; omega
    have hz : ¬ Arc c at' z ∧ ((c < at' ∧ at' < z) ∨ (at' ≤ c ∧ at' < z ∧ z ≤ c) ∨ (c < at' ∧ z ≤ c)) := by
      rcases hR.2 with ⟨h1, h2⟩ | ⟨h1, h2⟩
      · by_cases hc : c < at'
        · exact ⟨by unfold Arc; omega, .inl ⟨hc, h1⟩⟩
        · by_cases hcz : c < z
          · exact absurd (fun d hd => by have := h2 d hd; unfold Arc; omega) hnot
          · exact ⟨by unfold Arc; omega, .inr (.inl ⟨by omega, h1, by omega⟩)⟩
      · by_cases hc : c < at'
        · by_cases hcz : c < z
          · exact absurd (fun d hd => by have := h1 d hd; have := h2 d hd; unfold Arc; omega) hnot
          · exact ⟨by unfold Arc; omega, .inr (.inr ⟨hc, by omega⟩)⟩
        · exact absurd (fun d hd => by have := h1 d hd; unfold Arc; omega) hnot
    have hno : has seen z = false := by
      cases h : has seen z with
      | false => rfl
      | true => exact absurd ((hs z).1 h).2 hz.1
    refine ⟨hno, hR.1, fun h => absurd h (by omega), fun _ => ⟨V_wit hv _, ?_, .inr ⟨by omega, hR.1, hf, fun d => ?_⟩⟩⟩
    · rw [cnt_wit seen hv z hno (by unfold isCpu; simp; omega), hn]
    · rw [has_put seen z d ha, hs d]
      have hw : has m d = true → ((at' < z ∧ (at' < d → z ≤ d)) ∨ (d ≤ at' ∧ z ≤ d)) := fun h => by
        rcases hR.2 with ⟨h1, h2⟩ | ⟨h1, h2⟩
        · exact .inl ⟨h1, h2 d h⟩
        · exact .inr ⟨h1 d h, h2 d h⟩
      constructor
      · rintro (⟨h1, h2⟩ | rfl)
        · refine ⟨h1, ?_⟩
          have := hw h1; unfold Arc at h2 ⊢; omega
        · refine ⟨hR.1, ?_⟩
          unfold Arc; omega
      · rintro ⟨h1, h2⟩
        have h3 := hw h1
        by_cases e : d = z
        · exact .inr e
        · refine .inl ⟨h1, ?_⟩
          unfold Arc at h2 ⊢; omega

theorem inv_end {m : Nat} (hm : V m) {c : Int} {k seen : Nat} {at' f : Int} (I : Inv m c k seen at' f) (hk : k = cnt m) : seen = m ∧ (k = 0 → rndL m at' = []) ∧ (0 < k → ∃ (a : Nat) (t : List Nat), rndL m at' = a :: t ∧ (a : Int) = f) := by
  obtain ⟨hv, hn, hs⟩ := I
  rcases hs with ⟨h0, rfl, rfl⟩ | ⟨hk0, hat, hf, hs⟩
  · refine ⟨?_, fun _ => rnd_none hm _ (by omega), fun h => absurd h0 (by omega)⟩
    exact (cpus_nil hm (List.eq_nil_of_length_eq_zero (by unfold cnt at hk; omega))).symm
  · have e : seen = m := sub_all hm hv (fun d hd => ((hs d).1 hd).1) (by omega)
    refine ⟨e, fun h => absurd h (by omega), fun _ => ?_⟩
    obtain ⟨a, t, hL, hR⟩ := rnd_some hm at' (by omega)
    refine ⟨a, t, hL, ?_⟩
    subst e
    generalize (a : Int) = z at *
    have hz := ((hs z).1 hR.1).2
    have hfa := ((hs f).1 hf.1).2
    unfold Arc at hz hfa
    rcases hR.2 with ⟨r1, r2⟩ | ⟨r1, r2⟩ <;> rcases hf.2 with ⟨f1, f2⟩ | ⟨f1, f2⟩
    · have := r2 f hf.1; have := f2 z hR.1; omega
    · have := r2 f hf.1; have := f1 z hR.1; have := f2 z hR.1; have := f1 at' hat; omega
    · have := r1 f hf.1; have := r2 f hf.1; have := f2 z hR.1; have := r1 z hR.1; omega
    · have := r2 f hf.1; have := f2 z hR.1; omega

end Mk
end Go.Proofs.YtjdedfbgnakooaaDoor
