/-
  Jobs by numbers, played: what holds of what they come to.
-/
import Derived.Test.YthbabhmpkniliaaLkY
import Derived.Test.YthbabhmpkniliaaLkZ
namespace Go.Proofs.Ythbabhmpkniliaa
open Go.RowKit Go.ChangeAt Go.ChangeShapes Go.WideShapes Go.Sort Go.Deep Lk

theorem jobsF_len (zs : List Int) : (jobsF zs).length = manyF zs := jobsK_len zs _
theorem jobsF_in (zs : List Int) : ∀ j ∈ jobsF zs, InN 6 j := fun j hj p hp => jobsK_all zs _ j hj p hp
theorem play6_e (zs : List Int) : playE 6 (jobsF zs) = 0 := by
  have h1 : newL 6 = List.replicate 6 (-1) := by decide
  unfold playE
  rw [if_neg (by decide), h1]
  unfold mayF
  rw [if_neg (by rw [jobsF_len]; have := manyF_le zs; omega), if_pos]
  rw [List.all_eq_true]
  intro j hj
  rw [List.all_eq_true]
  intro p hp
  have := jobsF_in zs j hj p hp
  unfold isL
  simp only [List.length_replicate, Bool.and_eq_true, decide_eq_true_eq]
  omega
theorem play6_inv (zs : List Int) (o : Bool) (ps : List Int) : Inv 6 (manyF zs) o (playS 6 (jobsF zs) o ps) := by
  have h := Inv.start (N := 6) (by omega) (jobsF_in zs) o
  rw [jobsF_len] at h
  exact Inv.run ps h
theorem holds_two {N m : Nat} {o : Bool} {s : St} (h : Inv N m o s) (k : Nat) : (s.h k).length ≤ 2 := by
  rcases h.shp k with e | ⟨p, t, -, e | ⟨-, e⟩⟩ <;> rw [e] <;> simp
theorem allP_small {N m : Nat} {o : Bool} {s : St} (h : Inv N m o s) : ∀ k, k ≤ m → (allP (waitF o s) k).length ≤ 2 * k := by
  intro k
  induction k with
  | zero => intro _; simp [allP]
  | succ k ih =>
    intro hk
    rw [allP_succ, List.length_append, pairs_len, (waitF_at h (show k < m by omega)).1]
    have := ih (by omega)
    have := holds_two h k
    omega
theorem allP_ok {m : Nat} {o : Bool} {s : St} (h : Inv 6 m o s) (hm : m ≤ 5) : (allP (waitF o s) (waitF o s).length).length ≤ 100000 := by
  have := allP_small h m (Nat.le_refl _)
  rw [waitF_len h]; omega
theorem picksF_len (m : Nat) (zs : List Int) : (picksF m zs).length ≤ 300 := by unfold picksF; rw [List.length_map, List.length_take]; omega
theorem picksF_wf {m : Nat} (hm : 0 < m ∧ m ≤ 5) (zs : List Int) : ∀ z ∈ picksF m zs, 0 ≤ z ∧ z < m := fun z hz => by
  unfold picksF at hz
  obtain ⟨y, -, rfl⟩ := List.mem_map.1 hz
  unfold pickZ
  have h1 := Int.emod_nonneg y (b := (m : Int)) (by omega)
  have h2 := Int.emod_lt_of_pos y (b := (m : Int)) (by omega)
  omega
theorem jbs_shape {w : World} {v : Value} {js : List (List Pr)} (h : Jbs w v js) : ∃ a cap, v = .slice a js.length cap := by
  obtain ⟨a, cap, rfl, -⟩ := h; exact ⟨a, cap, rfl⟩
theorem wts_shape {w : World} {v : Value} {ws : List Wt} (h : Wts w v ws) : ∃ a cap, v = .slice a ws.length cap := by
  obtain ⟨a, cap, rfl, -⟩ := h; exact ⟨a, cap, rfl⟩
end Go.Proofs.Ythbabhmpkniliaa
