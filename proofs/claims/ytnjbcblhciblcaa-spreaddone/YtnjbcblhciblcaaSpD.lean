/-
  Plain facts behind SpreadDone: behind all that go nobody who may is a gain still.
-/
import Derived.Test.YtnjbcblhciblcaaSpX
namespace Go.Proofs.Ytnjbcblhciblcaa.Sp
open Go.Proofs.Ytnjbcblhciblcaa Go.Proofs.Ytnjbcblhciblcaa.Mk

def wtAt (c : List C) (i : Nat) : Int := (c.getD i default).wt
/-- The weights of those of the first k that are in g. -/
def sumU (c : List C) (g : List Int) : Nat → Int
  | 0 => 0
  | k + 1 => sumU c g k + (if g.contains (k : Int) then wtAt c k else 0)
/-- Those of the first k that are not in g. -/
def restU (c : List C) (g : List Int) : Nat → List C
  | 0 => []
  | k + 1 => restU c g k ++ (if g.contains (k : Int) then [] else [c.getD k default])
theorem sumU_yes {c : List C} {g : List Int} {k : Nat} (h : g.contains (k : Int) = true) : sumU c g (k + 1) = sumU c g k + wtAt c k := by show _ + _ = _; rw [if_pos h]
theorem sumU_no {c : List C} {g : List Int} {k : Nat} (h : g.contains (k : Int) = false) : sumU c g (k + 1) = sumU c g k := by show _ + _ = _; rw [if_neg (by rw [h]; simp)]; omega
theorem restU_yes {c : List C} {g : List Int} {k : Nat} (h : g.contains (k : Int) = true) : restU c g (k + 1) = restU c g k := by show _ ++ _ = _; rw [if_pos h, List.append_nil]
theorem restU_no {c : List C} {g : List Int} {k : Nat} (h : g.contains (k : Int) = false) : restU c g (k + 1) = restU c g k ++ [c.getD k default] := by show _ ++ _ = _; rw [if_neg (by rw [h]; simp)]
theorem sumU_cons {c : List C} {g : List Int} {n : Nat} : ∀ k, k ≤ n → sumU c ((n : Int) :: g) k = sumU c g k ∧ restU c ((n : Int) :: g) k = restU c g k
  | 0, _ => ⟨rfl, rfl⟩
  | k + 1, h => by
    obtain ⟨h1, h2⟩ := sumU_cons (c := c) (g := g) (n := n) k (by omega)
    have e : ((n : Int) :: g).contains (k : Int) = g.contains (k : Int) := by
      rw [List.contains_cons]
      have : ((k : Int) == (n : Int)) = false := by simp; omega
      rw [this, Bool.false_or]
    refine ⟨?_, ?_⟩
    · show _ + _ = _ + _; rw [h1, e]
    · show _ ++ _ = _ ++ _; rw [h2, e]
theorem restU_mem {c : List C} {g : List Int} : ∀ {k : Nat} {x : C}, x ∈ restU c g k → ∃ i : Nat, i < k ∧ g.contains (i : Int) = false ∧ x = c.getD i default
  | 0, x, h => by simp [restU] at h
  | k + 1, x, h => by
    cases hk : g.contains (k : Int) with
    | true =>
      rw [restU_yes hk] at h
      obtain ⟨i, h1, h2⟩ := restU_mem h
      exact ⟨i, by omega, h2⟩
    | false =>
      rw [restU_no hk, List.mem_append, List.mem_singleton] at h
      rcases h with h | rfl
      · obtain ⟨i, h1, h2⟩ := restU_mem h
        exact ⟨i, by omega, h2⟩
      · exact ⟨k, by omega, hk, rfl⟩
theorem restU_len {c : List C} {g : List Int} : ∀ k : Nat, (restU c g k).length ≤ k
  | 0 => by simp [restU]
  | k + 1 => by
    have ih := restU_len (c := c) (g := g) k
    cases hk : g.contains (k : Int) with
    | true => rw [restU_yes hk]; omega
    | false => rw [restU_no hk]; simp; omega
theorem sumU_le {c : List C} {g : List Int} (hw : ∀ i, i < c.length → 1 ≤ wtAt c i ∧ wtAt c i ≤ 88761) : ∀ k : Nat, k ≤ c.length → 0 ≤ sumU c g k ∧ sumU c g k ≤ 88761 * (k : Int)
  | 0, _ => ⟨Int.le_refl _, by simp [sumU]⟩
  | k + 1, h => by
    have ih := sumU_le (g := g) hw k (by omega)
    have hk := hw k (by omega)
    cases hc : g.contains (k : Int) with
    | true => rw [sumU_yes hc]; omega
    | false => rw [sumU_no hc]; omega

theorem done_upto {to most : Int} {c : List C} (hp : Placed c) (hw : ∀ i, i < c.length → 1 ≤ wtAt c i ∧ wtAt c i ≤ 88761) : ∀ (k : Nat), k ≤ c.length → ∀ (s : St), Ok s → (s.gone.length : Int) + (k : Int) ≤ most →
    ∃ g, ((c.take k).reverse.filter (may to)).foldl (stp most) s = ⟨s.gone ++ g, s.h + sumU c g k, s.t - sumU c g k⟩ ∧ (∀ z ∈ g, 0 ≤ z ∧ z < (k : Int)) ∧
      (∀ i : Nat, i < k → g.contains (i : Int) = false → may to (c.getD i default) = true → gain (s.h + sumU c g k) (s.t - sumU c g k) (wtAt c i) = false) ∧ (restU c g k).length + g.length = k
  | 0, _, s, _, _ => ⟨[], by simp [sumU], by simp, fun i hi => absurd hi (Nat.not_lt_zero _), rfl⟩
  | k + 1, hk, s, hok, hm => by
    have hkl : k < c.length := by omega
    have wk := hw k hkl
    have notin : ∀ {g : List Int}, (∀ z ∈ g, 0 ≤ z ∧ z < (k : Int)) → g.contains (k : Int) = false := by
      intro g hg
      rw [List.contains_eq_mem, decide_eq_false_iff_not]
      intro hc; have := hg _ hc; omega
    have stay : may to (c.getD k default) = false ∨ gain s.h s.t (wtAt c k) = false → ((c.take (k + 1)).reverse.filter (may to)).foldl (stp most) s = ((c.take k).reverse.filter (may to)).foldl (stp most) s →
        ∃ g, ((c.take (k + 1)).reverse.filter (may to)).foldl (stp most) s = ⟨s.gone ++ g, s.h + sumU c g (k + 1), s.t - sumU c g (k + 1)⟩ ∧ (∀ z ∈ g, 0 ≤ z ∧ z < ((k + 1 : Nat) : Int)) ∧
          (∀ i : Nat, i < k + 1 → g.contains (i : Int) = false → may to (c.getD i default) = true → gain (s.h + sumU c g (k + 1)) (s.t - sumU c g (k + 1)) (wtAt c i) = false) ∧ (restU c g (k + 1)).length + g.length = k + 1 := by
      intro hno he
      obtain ⟨g, h1, h2, h3, h4⟩ := done_upto (to := to) (most := most) hp hw k (by omega) s hok (by omega)
      have hn := notin h2
      have hs := sumU_le (g := g) hw k (by omega)
      refine ⟨g, by rw [he, h1, sumU_no hn], fun z hz => by have := h2 z hz; omega, fun i hi hc hmy => ?_, by rw [restU_no hn]; simp; omega⟩
      rw [sumU_no hn]
      by_cases e : i = k
      · subst e
        rcases hno with h | h
        · rw [h] at hmy; cases hmy
        · cases hg : gain (s.h + sumU c g i) (s.t - sumU c g i) (wtAt c i) with
          | false => rfl
          | true =>
            have a1 := (gain_iff _ _ _).1 hg
            have a2 : gain s.h s.t (wtAt c i) = true := (gain_iff _ _ _).2 ⟨hok.1, hok.2, a1.2.2.1, by omega⟩
            rw [a2] at h; cases h
      · exact h3 i (by omega) hc hmy
    cases hmy : may to (c.getD k default) with
    | false => exact stay (.inl hmy) (upto_no' hkl hmy s)
    | true =>
      cases hg : gain s.h s.t (wtAt c k) with
      | false => exact stay (.inr hg) (by rw [upto_yes' hkl hmy, stp_no hg])
      | true =>
        have e1 := stp_yes (most := most) (s := s) (c := c.getD k default) hg (by omega)
        have hok2 := stp_ok (most := most) (c.getD k default) hok
        rw [e1] at hok2
        obtain ⟨g, h1, h2, h3, h4⟩ := done_upto (to := to) (most := most) hp hw k (by omega) ⟨s.gone ++ [(c.getD k default).id], s.h + (c.getD k default).wt, s.t - (c.getD k default).wt⟩ hok2 (by simp; omega)
        have hid := hp k hkl
        have hin : ((k : Int) :: g).contains (k : Int) = true := by rw [List.contains_cons]; simp
        obtain ⟨c1, c2⟩ := sumU_cons (c := c) (g := g) (n := k) k (Nat.le_refl _)
        have ew : wtAt c k = (c.getD k default).wt := rfl
        refine ⟨(k : Int) :: g, ?_, ?_, ?_, ?_⟩
        · rw [upto_yes' hkl hmy, e1, h1, sumU_yes hin, c1, hid, ew]
          simp only [List.append_assoc, List.singleton_append, St.mk.injEq, true_and]
          omega
        · intro z hz
          rcases List.mem_cons.1 hz with rfl | hz
          · omega
          · have := h2 z hz; omega
        · intro i hi hc hmy2
          rw [sumU_yes hin, c1, ew]
          have hik : i ≠ k := by rintro rfl; rw [hin] at hc; cases hc
          have hc2 : g.contains (i : Int) = false := by
            rw [List.contains_cons] at hc
            exact (Bool.or_eq_false_iff.1 hc).2
          have := h3 i (by omega) hc2 hmy2
          dsimp only at this
          rw [show s.h + (sumU c g k + (c.getD k default).wt) = s.h + (c.getD k default).wt + sumU c g k by omega, show s.t - (sumU c g k + (c.getD k default).wt) = s.t - (c.getD k default).wt - sumU c g k by omega]
          exact this
        · rw [restU_yes hin, c2]; simp; omega
/-- All of it, of what is made. -/
theorem done_plan {to h t : Int} {c : List C} {most : Int} (hp : Placed c) (hw : ∀ i, i < c.length → 1 ≤ wtAt c i ∧ wtAt c i ≤ 88761) (hok : Ok ⟨[], h, t⟩) (hm : (c.length : Int) ≤ most) :
    ∃ g, (planS to h t most c).gone = g ∧ Ok ⟨[], h + sumU c g c.length, t - sumU c g c.length⟩ ∧
      (∀ x ∈ restU c g c.length, may to x = true → gain (h + sumU c g c.length) (t - sumU c g c.length) x.wt = false) ∧ (restU c g c.length).length + g.length = c.length := by
  obtain ⟨g, h1, h2, h3, h4⟩ := done_upto (to := to) (most := most) hp hw c.length (Nat.le_refl _) ⟨[], h, t⟩ hok (by simpa using hm)
  rw [List.take_length] at h1
  have hf : planS to h t most c = ⟨g, h + sumU c g c.length, t - sumU c g c.length⟩ := by unfold planS; rw [h1]; simp
  refine ⟨g, by rw [hf], ?_, fun x hx hmy => ?_, h4⟩
  · have := fold_ok (most := most) (c.reverse.filter (may to)) ⟨[], h, t⟩ hok
    rw [show (c.reverse.filter (may to)).foldl (stp most) ⟨[], h, t⟩ = planS to h t most c from rfl, hf] at this
    exact this
  · obtain ⟨i, hi, hc, rfl⟩ := restU_mem hx
    exact h3 i hi hc hmy
/-- Where nobody who may is a gain nobody goes. -/
theorem none_goes {to h t most : Int} {r : List C} (hn : ∀ x ∈ r, may to x = true → gain h t x.wt = false) : (planS to h t most r).gone = [] := by
  have : ∀ (q : List C), (∀ x ∈ q, gain h t x.wt = false) → q.foldl (stp most) ⟨[], h, t⟩ = ⟨[], h, t⟩ := by
    intro q
    induction q with
    | nil => intro _; rfl
    | cons x q ih =>
      intro hq
      rw [List.foldl_cons, stp_no (hq x (by simp))]
      exact ih (fun y hy => hq y (List.mem_cons_of_mem _ hy))
  unfold planS
  rw [this]
  intro x hx
  obtain ⟨h1, h2⟩ := filt_mem r x hx
  exact hn x h1 h2
end Go.Proofs.Ytnjbcblhciblcaa.Sp
