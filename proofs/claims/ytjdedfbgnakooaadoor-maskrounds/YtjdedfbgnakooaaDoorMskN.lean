/-
  Plain facts behind layer 4's laws: the first one above another, and going round.
-/
import Derived.Test.YtjdedfbgnakooaaDoorMskM
namespace Go.Proofs.YtjdedfbgnakooaaDoor
namespace Mk

theorem mem_above {x : Nat} (hx : V x) (c : Int) (i : Nat) : i ∈ above x c ↔ x.testBit i = true ∧ c < (i : Int) := by
  unfold above
  rw [List.mem_filter, mem_cpus hx]; simp
theorem has_nat {x : Nat} {d : Int} (h : has x d = true) : ∃ i : Nat, d = (i : Int) ∧ x.testBit i = true := by
  unfold has at h
  simp at h
  exact ⟨d.toNat, by omega, h.2⟩
theorem above_nil {x : Nat} (hx : V x) {c : Int} (h : above x c = []) (d : Int) (hd : c < d) : has x d = false := by
  cases hh : has x d with
  | false => rfl
  | true =>
    obtain ⟨i, rfl, hi⟩ := has_nat hh
    have : i ∈ above x c := (mem_above hx c i).2 ⟨hi, hd⟩
    rw [h] at this; cases this
theorem above_head {x : Nat} (hx : V x) {c : Int} {a : Nat} {t : List Nat} (h : above x c = a :: t) : c < (a : Int) ∧ has x (a : Int) = true ∧ ∀ d : Int, c < d → d < (a : Int) → has x d = false := by
  have ha := (mem_above hx c a).1 (by rw [h]; simp)
  refine ⟨ha.2, by rw [has_at]; exact ha.1, fun d h1 h2 => ?_⟩
  cases hh : has x d with
  | false => rfl
  | true =>
    obtain ⟨i, rfl, hi⟩ := has_nat hh
    have hm : i ∈ above x c := (mem_above hx c i).2 ⟨hi, h1⟩
    have hs : (above x c).Pairwise (· < ·) := List.Pairwise.filter _ (cpus_rise x)
    rw [h] at hm hs
    rw [List.pairwise_cons] at hs
    rcases List.mem_cons.1 hm with e | e
    · subst e; omega
    · have := hs.1 i e; omega
theorem cpus_head {x : Nat} (hx : V x) {a : Nat} {t : List Nat} (h : cpus x = a :: t) : has x (a : Int) = true ∧ ∀ d : Int, d < (a : Int) → has x d = false := by
  rw [← above_lo x] at h
  obtain ⟨_, h1, h2⟩ := above_head hx h
  refine ⟨h1, fun d hd => ?_⟩
  by_cases h0 : d < 0
  · exact has_neg _ _ h0
  · exact h2 d (by omega) hd

end Mk
end Go.Proofs.YtjdedfbgnakooaaDoor
