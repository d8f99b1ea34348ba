/-
  Plain facts behind WeightGrows, WeightParts and WeightSums: what is shared, what grows. No condition.
-/
import Derived.Test.YtlfcnhggleagaaaDoorWgtM
namespace Go.Proofs.YtlfcnhggleagaaaDoor.Wg
open Wd

theorem dlt_grows (x y v : Int) (hy : 0 ≤ y) (hv : U v) : dlt x v ≤ dlt (x + y) v := by
  unfold dlt
  have h := scl_mono x (x + y) 1024 v U_1024 hv (by omega)
  rw [scl_comm x 1024, scl_comm (x + y) 1024] at h
  omega
theorem dlt_falls (x v : Int) (hx : U x) (hv : U v) (hv2 : U (v + 1)) : dlt x (v + 1) ≤ dlt x v := by
  unfold dlt
  have h := scl_anti 1024 x v (v + 1) U_1024 hx hv hv2 (by omega)
  omega
theorem dlt_same (x : Int) (h0 : 0 ≤ x) (h1 : x ≤ 281474976710656) : dlt x 1024 = x := by
  unfold dlt
  rw [scl_comm, scl_self x 1024 (U_nat x h0 (by omega)) U_1024 (by omega)]
  unfold step48
  omega
theorem dlt_top (x v : Int) : dlt x v ≤ 281474976710656 := by unfold dlt step48; omega

/-- nices out of bytes. -/
def nz (z : Int) : Int := -20 + z.tmod 40
theorem nz_nice (z : Int) (h : 0 ≤ z) : isNice (nz z) := by
  unfold isNice nz
  rw [Int.tmod_eq_emod_of_nonneg h]
  omega

def shSum (t S : Int) : List Int → Int
  | [] => 0
  | n :: l => t * wt n / S + shSum t S l
theorem shSum_snoc (t S : Int) (l : List Int) (n : Int) : shSum t S (l ++ [n]) = shSum t S l + t * wt n / S := by
  induction l with
  | nil => simp [shSum]
  | cons a l ih => simp only [List.cons_append, shSum, ih]; omega
theorem shSum_bound (t S : Int) (ht : 0 ≤ t) (hS : 0 < S) (l : List Int) (h : allNice l) :
    0 ≤ shSum t S l ∧ S * shSum t S l ≤ t * sumW l ∧ t * sumW l ≤ S * shSum t S l + (l.length : Int) * (S - 1) := by
  induction l with
  | nil => simp [shSum, sumW]
  | cons a l ih =>
    have h2 := ih (fun n hn => h n (by simp [hn]))
    have hw := wt_bound (h a (by simp))
    have hp : 0 ≤ t * wt a := Int.mul_nonneg ht (by omega)
    have e := Int.mul_ediv_add_emod (t * wt a) S
    have hr0 := Int.emod_nonneg (t * wt a) (show S ≠ 0 by omega)
    have hr1 := Int.emod_lt_of_pos (t * wt a) hS
    have hq : 0 ≤ t * wt a / S := Int.ediv_nonneg hp (by omega)
    simp only [shSum, sumW, List.length_cons, Int.mul_add]
    have e2 : ((l.length + 1 : Nat) : Int) * (S - 1) = (l.length : Int) * (S - 1) + (S - 1) := by rw [Int.natCast_add, Int.add_mul]; simp
    rw [e2]
    refine ⟨by omega, by omega, by omega⟩
theorem sumW_take (l : List Int) (h : allNice l) (k : Nat) : sumW (l.take k) ≤ sumW l := by
  have e : sumW l = sumW (l.take k) + sumW (l.drop k) := by rw [← sumW_append, List.take_append_drop]
  have := sumW_bound (l.drop k) (fun n hn => h n (List.mem_of_mem_drop hn))
  omega
/-- no more than there is has been shared, however far it has come. -/
theorem shSum_le (t : Int) (ht : 0 ≤ t) (l : List Int) (h : allNice l) (hne : l ≠ []) (k : Nat) : 0 ≤ shSum t (sumW l) (l.take k) ∧ shSum t (sumW l) (l.take k) ≤ t := by
  have hp : 0 < l.length := List.length_pos_iff.2 hne
  have hS := sumW_bound l h
  have hb := shSum_bound t (sumW l) ht (by omega) (l.take k) (fun n hn => h n (List.mem_of_mem_take hn))
  refine ⟨hb.1, ?_⟩
  have h1 : t * sumW (l.take k) ≤ t * sumW l := Int.mul_le_mul_of_nonneg_left (sumW_take l h k) ht
  have h2 : sumW l * shSum t (sumW l) (l.take k) ≤ sumW l * t := by rw [Int.mul_comm (sumW l) t]; omega
  exact Int.le_of_mul_le_mul_left h2 (by omega)
/-- less than one for each of them is left. -/
theorem shSum_most (t : Int) (ht : 0 ≤ t) (l : List Int) (h : allNice l) (hne : l ≠ []) : t - shSum t (sumW l) l < l.length := by
  have hp : 0 < l.length := List.length_pos_iff.2 hne
  have hS := sumW_bound l h
  have hb := shSum_bound t (sumW l) ht (by omega) l h
  refine Int.lt_of_mul_lt_mul_left (a := sumW l) ?_ (by omega)
  rw [Int.mul_sub, Int.mul_comm (sumW l) t]
  have e : (l.length : Int) * (sumW l - 1) = sumW l * l.length - l.length := by rw [Int.mul_sub, Int.mul_one, Int.mul_comm]
  omega

theorem shE_ok (t n : Int) (l : List Int) (h0 : 0 ≤ t) (h1 : t ≤ 1099511627776) (hn : isNice n) (hl : l.length ≤ 64) (ha : allNice l) (hne : l ≠ []) : shE t n l = 0 := by
  unfold shE sumE sumE0
  rw [if_neg (by rintro (x | x | x); omega; omega; exact x hn), if_neg (show ¬ 64 < l.length by omega), if_pos ha, if_neg (by simp), if_neg hne]
theorem sum_ok (l : List Int) (hl : l.length ≤ 64) (ha : allNice l) : sumE l = 0 ∧ sumR l = sumW l := by
  unfold sumE sumE0 sumR sumR0
  rw [if_neg (show ¬ 64 < l.length by omega), if_pos ha, if_neg (show ¬ 64 < l.length by omega), if_pos ha]
  exact ⟨rfl, rfl⟩
theorem nz_all (zs : List Int) (h : ∀ z ∈ zs, 0 ≤ z) : allNice (zs.map nz) := fun n hn => by
  obtain ⟨z, hz, rfl⟩ := List.mem_map.1 hn
  exact nz_nice z (h z hz)
end Go.Proofs.YtlfcnhggleagaaaDoor.Wg
