/-
  Who is stuck stays so: it has, and wants, the same still, and does no section. No condition.
-/
import Derived.Test.YthbabhmpkniliaaLkF
namespace Go.Proofs.Ythbabhmpkniliaa.Lk

/-- What steps leave of those of S. -/
structure Keeps (N m : Nat) (o : Bool) (S : Nat → Prop) (s t : St) : Prop where
  inv : Inv N m o t
  cl : ClosedW (waitF o t) S
  same : ∀ i, S i → t.h i = s.h i ∧ t.l i = s.l i
  done : ∃ E, t.D = s.D ++ E ∧ ∀ x ∈ E, ∀ i : Nat, S i → x ≠ i
theorem Keeps.refl {N m : Nat} {o : Bool} {S : Nat → Prop} {s : St} (h : Inv N m o s) (hS : ClosedW (waitF o s) S) : Keeps N m o S s s := ⟨h, hS, fun _ _ => ⟨rfl, rfl⟩, [], by simp, fun x hx => by cases hx⟩
theorem closed_of {N m : Nat} {o : Bool} {S : Nat → Prop} {s t : St} (hs : Inv N m o s) (ht : Inv N m o t) (hS : ClosedW (waitF o s) S) (h : ∀ i, S i → t.h i = s.h i ∧ t.l i = s.l i) : ClosedW (waitF o t) S := by
  intro i hi
  obtain ⟨h1, j, hj, hm⟩ := hS i hi
  obtain ⟨h2, -⟩ := hS j hj
  rw [waitF_len hs] at h1 h2
  refine ⟨by rw [waitF_len ht]; exact h1, j, hj, ?_⟩
  rw [(waitF_at hs h1).2, (waitF_at hs h2).1] at hm
  rw [(waitF_at ht h1).2, (waitF_at ht h2).1, (h i hi).1, (h i hi).2, (h j hj).1]
  exact hm
theorem Keeps.step {N m : Nat} {o : Bool} {S : Nat → Prop} {s t : St} (h : Keeps N m o S s t) {k : Nat} (hk : k < m) : Keeps N m o S s (stepF o t k) := by
  have hi := h.inv.step hk
  have wanted : ∀ y : Int, wantsF o (t.l k) (t.h k) = y → S k → ∃ z : Nat, y = z ∧ z < N ∧ ∃ j : Nat, t.b.getD z 0 = j := by
    intro y hy hSk
    obtain ⟨h1, j, hj, hm⟩ := h.cl k hSk
    obtain ⟨h2, -⟩ := h.cl j hj
    rw [waitF_len h.inv] at h2
    rw [(waitF_at h.inv hk).2, (waitF_at h.inv h2).1, hy] at hm
    obtain ⟨z, e, hz, hb⟩ := h.inv.own j h2 _ hm
    exact ⟨z, e, hz, j, hb⟩
  rcases step_cases h.inv hk with ⟨e, -⟩ | ⟨y, hy, hw, hf, e⟩ | ⟨hw, -, -, e⟩
  · rw [e]; exact h
  · have hno : ¬ S k := fun hSk => by
      obtain ⟨z, e1, -, j, hb⟩ := wanted y hw hSk
      obtain rfl : y = z := by omega
      omega
    have same : ∀ i, S i → (stepF o t k).h i = s.h i ∧ (stepF o t k).l i = s.l i := fun i hSi => by
      rw [e]
      refine ⟨?_, (h.same i hSi).2⟩
      show (t.H.set k _).getD i [] = _
      rw [getD_set_ite _ _ _ _ _ (by rw [h.inv.lH]; exact hk), if_neg (by intro e2; subst e2; exact hno hSi)]
      exact (h.same i hSi).1
    refine ⟨hi, closed_of h.inv hi h.cl (fun i hSi => ⟨(same i hSi).1.trans (h.same i hSi).1.symm, (same i hSi).2.trans (h.same i hSi).2.symm⟩), same, ?_⟩
    rw [e]; exact h.done
  · have hno : ¬ S k := fun hSk => by
      obtain ⟨z, e1, -⟩ := wanted _ hw hSk
      omega
    have same : ∀ i, S i → (stepF o t k).h i = s.h i ∧ (stepF o t k).l i = s.l i := fun i hSi => by
      rw [e]
      have hne : i ≠ k := by intro e2; subst e2; exact hno hSi
      refine ⟨?_, ?_⟩
      · show (t.H.set k _).getD i [] = _
        rw [getD_set_ite _ _ _ _ _ (by rw [h.inv.lH]; exact hk), if_neg hne]
        exact (h.same i hSi).1
      · show (t.L.set k _).getD i [] = _
        rw [getD_set_ite _ _ _ _ _ (by rw [h.inv.lL]; exact hk), if_neg hne]
        exact (h.same i hSi).2
    refine ⟨hi, closed_of h.inv hi h.cl (fun i hSi => ⟨(same i hSi).1.trans (h.same i hSi).1.symm, (same i hSi).2.trans (h.same i hSi).2.symm⟩), same, ?_⟩
    obtain ⟨E, h1, h2⟩ := h.done
    refine ⟨E ++ [(k : Int)], by rw [e]; show t.D ++ [(k : Int)] = _; rw [h1, List.append_assoc], fun x hx i hSi => ?_⟩
    rcases List.mem_append.1 hx with h3 | h3
    · exact h2 x h3 i hSi
    · simp at h3
      intro e2
      have : k = i := by omega
      subst this
      exact hno hSi
theorem Keeps.run {N m : Nat} {o : Bool} {S : Nat → Prop} {s : St} : ∀ (zs : List Int) {t : St}, Keeps N m o S s t → Keeps N m o S s (runF o t zs)
  | [], _, h => h
  | z :: zs, t, h => by
    refine Keeps.run zs (t := pickF o t z) ?_
    unfold pickF
    split
    · next hz => exact h.step (by rw [h.inv.lL] at hz; omega)
    · exact h
theorem runF_append (o : Bool) (s : St) (a b : List Int) : runF o s (a ++ b) = runF o (runF o s a) b := by unfold runF; rw [List.foldl_append]
end Go.Proofs.Ythbabhmpkniliaa.Lk
namespace Go.Proofs.Ythbabhmpkniliaa
open Lk
/-- What is held of a first play and a longer one. -/
theorem dead_keeps (zs : List Int) (a b : List Int) {i : Nat} (hd : Dead (waitF false (playS 6 (jobsF zs) false a)) i) :
    Dead (waitF false (playS 6 (jobsF zs) false (a ++ b))) i ∧ (playS 6 (jobsF zs) false (a ++ b)).h i = (playS 6 (jobsF zs) false a).h i ∧ (playS 6 (jobsF zs) false (a ++ b)).l i = (playS 6 (jobsF zs) false a).l i ∧
      ∃ E, (playS 6 (jobsF zs) false (a ++ b)).D = (playS 6 (jobsF zs) false a).D ++ E ∧ ∀ x ∈ E, x ≠ i := by
  have hI := play6_inv zs false a
  have hK := Keeps.run b (Keeps.refl hI (Dead.closed (waitF false (playS 6 (jobsF zs) false a))))
  have e : playS 6 (jobsF zs) false (a ++ b) = runF false (playS 6 (jobsF zs) false a) b := runF_append _ _ _ _
  rw [e]
  obtain ⟨E, h1, h2⟩ := hK.done
  exact ⟨⟨_, hK.cl, hd⟩, (hK.same i hd).1, (hK.same i hd).2, E, h1, fun x hx => h2 x hx i hd⟩
theorem runD (o : Bool) (b : List Int) (s : St) : ∃ E, (runF o s b).D = s.D ++ E := by
  induction b generalizing s with
  | nil => exact ⟨[], by simp [runF]⟩
  | cons z t ih =>
    obtain ⟨E, h⟩ := ih (pickF o s z)
    have h2 : ∃ F, (pickF o s z).D = s.D ++ F := by
      unfold pickF
      split
      · unfold stepF
        split
        · split
          · exact ⟨[], by simp⟩
          · exact ⟨[], by simp⟩
        · split
          · exact ⟨_, rfl⟩
          · exact ⟨[], by simp⟩
      · exact ⟨[], by simp⟩
    obtain ⟨F, hF⟩ := h2
    refine ⟨F ++ E, ?_⟩
    show (runF o (pickF o s z) t).D = _
    rw [h, hF, List.append_assoc]
theorem mem_deadL {ws : List Wt} {n : Nat} {z : Int} : z ∈ deadL ws n ↔ ∃ i : Nat, z = i ∧ i < n ∧ Dead ws i := by
  unfold deadL
  constructor
  · intro h
    obtain ⟨i, hi, rfl⟩ := List.mem_map.1 h
    obtain ⟨h1, h2⟩ := List.mem_filter.1 hi
    exact ⟨i, rfl, List.mem_range.1 h1, by simpa using h2⟩
  · rintro ⟨i, rfl, h1, h2⟩
    exact List.mem_map.2 ⟨i, List.mem_filter.2 ⟨List.mem_range.2 h1, by simpa using h2⟩, rfl⟩
end Go.Proofs.Ythbabhmpkniliaa
