/-
  Plain facts behind TableRight: what a change tells, beside the table that it was told of.
-/
import Derived.Test.YtjikabalpejmlaaDoorTlPl
namespace Go.Proofs.YtjikabalpejmlaaDoor
namespace Tl
open Pk Lf
open Mk (V allM cpus fstI anyB)

/-- What comes of a right table is right, and the other slots are as they were; or nothing is told. -/
def Good (t u : T) (e s : Int) : Prop := (e = 0 → right u ∧ u.ws.length = t.ws.length ∧ u.ts.length = t.ts.length ∧ ∀ j : Nat, (j : Int) ≠ s → W u j = W t j ∧ X u j = X t j) ∧ (e ≠ 0 → u = t0)
theorem good_cr (t : T) (c n : Int) (m : Nat) : Good t (crT t c n m) (crE t c n m) (crH t c n m).slot := by
  refine ⟨fun h => ?_, fun h => (cr_no h).1⟩
  obtain ⟨i, -, -, -, hH, h1, h2, h3, -⟩ := cr_facts h
  exact ⟨right_cr h, h1, h2, fun j hj => h3 j (fun e => hj (by rw [hH, e]))⟩
theorem good_ex {t : T} {i : Nat} {g : Int} : Good t (exT t (i : Int) g) (exE t (i : Int) g) (i : Int) := by
  refine ⟨fun h => ?_, fun h => ex_no h⟩
  obtain ⟨hr, hc, -⟩ := exE_inv h
  obtain ⟨k, hk, hkl, -⟩ := chk_zero hc
  have hki : k = i := by omega
  subst hki
  refine ⟨right_ex h, ?_⟩
  rw [ex_yes h, Int.toNat_natCast]
  refine ⟨(put_len _ _ _ _).1, (put_len _ _ _ _).2, fun j hj => ?_⟩
  have hj' : j ≠ k := fun e => hj (by rw [e])
  rw [W_put _ _ _ _ _ hkl, X_put _ _ _ _ _ (by rw [hr.2.1]; exact hkl), if_neg hj', if_neg hj']
  exact ⟨rfl, rfl⟩
theorem good_st {t : T} {i : Nat} {e c : Int} : Good t (stT t (i : Int) e c) (stE t (i : Int) e c) (i : Int) := by
  refine ⟨fun h => ?_, fun h => st_no h⟩
  obtain ⟨hr, ⟨hs, -⟩, -⟩ := stE_inv h
  have hkl : i < t.ws.length := by omega
  refine ⟨right_st h, ?_⟩
  rw [st_yes h, Int.toNat_natCast]
  refine ⟨(put_len _ _ _ _).1, (put_len _ _ _ _).2, fun j hj => ?_⟩
  have hj' : j ≠ i := fun e => hj (by rw [e])
  rw [W_put _ _ _ _ _ hkl, X_put _ _ _ _ _ (by rw [hr.2.1]; exact hkl), if_neg hj', if_neg hj']
  exact ⟨rfl, rfl⟩
end Tl
end Go.Proofs.YtjikabalpejmlaaDoor
