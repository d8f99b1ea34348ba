/-
  Plain: letting go one after another comes to those that are stuck.
-/
import Derived.Test.YthbabhmpkniliaaLkO
namespace Go.Proofs.Ythbabhmpkniliaa
open Go.RowKit Go.ChangeAt Go.ChangeShapes Go.WideShapes Lk

/-- Does i stay, as long as those of S are left? -/
def Stays (ws : List Wt) (S : List Nat) (i : Nat) : Prop := 0 ≤ wantsW ws i ∧ ∃ j ∈ S, wantsW ws i ∈ holdsW ws j
open Classical in
noncomputable def nextS (ws : List Wt) (S T : List Nat) : List Nat := T.filter (fun i => decide (Stays ws S i))
/-- Those that are left: all that are stuck are among them. -/
structure Lft (ws : List Wt) (S : List Nat) : Prop where
  sub : ∃ p : Nat → Bool, S = (List.range ws.length).filter p
  dead : ∀ i, Dead ws i → i ∈ S

theorem Lft.lt {ws : List Wt} {S : List Nat} (h : Lft ws S) {i : Nat} (hi : i ∈ S) : i < ws.length := by
  obtain ⟨p, rfl⟩ := h.sub
  exact List.mem_range.1 (List.mem_filter.1 hi).1
theorem Lft.len {ws : List Wt} {S : List Nat} (h : Lft ws S) : S.length ≤ ws.length := by
  obtain ⟨p, rfl⟩ := h.sub
  exact Nat.le_trans (List.length_filter_le _ _) (by simp)
theorem Lft.all {ws : List Wt} : Lft ws (List.range ws.length) := by
  refine ⟨⟨fun _ => true, (List.filter_eq_self.2 (fun _ _ => rfl)).symm⟩, fun i hi => ?_⟩
  exact List.mem_range.2 ((Dead.closed ws i hi).1)
theorem Lft.next {ws : List Wt} {S : List Nat} (hok : okW ws) (h : Lft ws S) : Lft ws (nextS ws S S) := by
  classical
  refine ⟨?_, fun i hi => ?_⟩
  · obtain ⟨p, hp⟩ := h.sub
    refine ⟨fun i => p i && decide (Stays ws S i), ?_⟩
    unfold nextS
    rw [show ∀ T : List Nat, T = (List.range ws.length).filter p → T.filter (fun i => decide (Stays ws S i)) = (List.range ws.length).filter (fun i => p i && decide (Stays ws S i)) from fun T hT => by
      rw [hT, List.filter_filter]
      congr 1
      funext i
      exact Bool.and_comm _ _]
    exact hp
  · unfold nextS
    refine List.mem_filter.2 ⟨h.dead i hi, decide_eq_true ?_⟩
    obtain ⟨-, j, hj, hm⟩ := Dead.closed ws i hi
    refine ⟨hok.1.1 (wantsW ws i, (j : Int)) (mem_allP.2 ⟨j, (Dead.closed ws j hj).1, rfl, hm⟩), j, h.dead j hj, hm⟩
theorem Lft.ends {ws : List Wt} {S : List Nat} (h : Lft ws S) (hs : ∀ i ∈ S, Stays ws S i) : S.map Int.ofNat = deadL ws ws.length := by
  classical
  have hd : ∀ i, i ∈ S ↔ Dead ws i := fun i => ⟨fun hi => ⟨fun k => k ∈ S, fun k hk => ⟨h.lt hk, by
    obtain ⟨-, j, hj, hm⟩ := hs k hk
    exact ⟨j, hj, hm⟩⟩, hi⟩, h.dead i⟩
  unfold deadL
  congr 1
  obtain ⟨p, hp⟩ := h.sub
  rw [hp]
  refine List.filter_congr fun i hi => ?_
  have := hd i
  rw [hp, List.mem_filter] at this
  have h2 : p i = true ↔ Dead ws i := ⟨fun h => this.1 ⟨hi, h⟩, fun h => (this.2 h).2⟩
  rw [Bool.eq_iff_iff, h2, decide_eq_true_iff]
theorem nextS_snoc_yes {ws : List Wt} {S T : List Nat} {i : Nat} (h : Stays ws S i) : nextS ws S (T ++ [i]) = nextS ws S T ++ [i] := by
  classical
  unfold nextS; rw [List.filter_append]; simp [h]
theorem nextS_snoc_no {ws : List Wt} {S T : List Nat} {i : Nat} (h : ¬ Stays ws S i) : nextS ws S (T ++ [i]) = nextS ws S T := by
  classical
  unfold nextS; rw [List.filter_append]; simp [h]
theorem nextS_len {ws : List Wt} {S T : List Nat} : (nextS ws S T).length ≤ T.length := by
  unfold nextS; exact List.length_filter_le _ _
theorem nextS_lt {ws : List Wt} {S T : List Nat} {i : Nat} (hi : i ∈ T) (h : ¬ Stays ws S i) : (nextS ws S T).length < T.length := by
  classical
  have hle : (nextS ws S T).length ≤ T.length := nextS_len
  rcases Nat.lt_or_ge (nextS ws S T).length T.length with h1 | h1
  · exact h1
  · have := (List.filter_sublist (l := T) (p := fun i => decide (Stays ws S i))).eq_of_length (by unfold nextS at h1 hle; omega)
    rw [← this] at hi
    have := (List.mem_filter.1 hi).2
    simp [h] at this
theorem nextS_all {ws : List Wt} {S T : List Nat} (h : ∀ i ∈ T, Stays ws S i) : nextS ws S T = T := by
  classical
  unfold nextS
  exact List.filter_eq_self.2 (fun i hi => decide_eq_true (h i hi))
theorem stuckR_ok {ws : List Wt} (hn : ws.length ≤ 64) (hok : okW ws) : stuckE ws = 0 ∧ stuckR ws = deadL ws ws.length := by
  have hE : stuckE ws = 0 := by unfold stuckE; rw [if_neg (by omega), if_pos hok]
  exact ⟨hE, by unfold stuckR; rw [if_pos hE]; rfl⟩
theorem stuckR_arg {ws : List Wt} (hn : ws.length ≤ 64) (hok : ¬ okW ws) : stuckE ws = 1 ∧ stuckR ws = [] := by
  have hE : stuckE ws = 1 := by unfold stuckE; rw [if_neg (by omega), if_neg hok]
  exact ⟨hE, by unfold stuckR; rw [if_neg (by rw [hE]; decide)]⟩
theorem stuckR_long {ws : List Wt} (hn : 64 < ws.length) : stuckE ws = 2 ∧ stuckR ws = [] := by
  have hE : stuckE ws = 2 := by unfold stuckE; rw [if_pos hn]
  exact ⟨hE, by unfold stuckR; rw [if_neg (by rw [hE]; decide)]⟩
end Go.Proofs.Ythbabhmpkniliaa
