/-
  The weights as plain numbers: what Of, Nice, Delta, Sum and Share answer, and the plain facts behind stage 2's laws. No condition.
-/
import Derived.Test.YtlfcnhggleagaaaDoorWideN
namespace Go.Proofs.YtlfcnhggleagaaaDoor.Wg
open Wd

def tab : List Int := [88761, 71755, 56483, 46273, 36291, 29154, 23254, 18705, 14949, 11916, 9548, 7620, 6100, 4904, 3906, 3121, 2501, 1991, 1586, 1277, 1024, 820, 655, 526, 423, 335, 272, 215, 172, 137, 110, 87, 70, 56, 45, 36, 29, 23, 18, 15]
def isNice (n : Int) : Prop := -20 ≤ n ∧ n ≤ 19
instance (n : Int) : Decidable (isNice n) := inferInstanceAs (Decidable (_ ∧ _))
def wt (n : Int) : Int := tab.getD (n + 20).toNat 0
def ofW (n : Int) : Int := if isNice n then wt n else 0
def ofE (n : Int) : Int := if isNice n then 0 else 1

theorem tab_len : tab.length = 40 := rfl
theorem tab_each : ∀ k : Fin 40, 15 ≤ tab.getD k.val 0 ∧ tab.getD k.val 0 ≤ 88761 := by decide +kernel
theorem tab_falls : ∀ k : Fin 39, 12 * tab.getD (k.val + 1) 0 ≤ 10 * tab.getD k.val 0 ∧ 100 * tab.getD k.val 0 ≤ 128 * tab.getD (k.val + 1) 0 ∧ 15 ≤ tab.getD (k.val + 1) 0 := by decide +kernel
theorem tab_less (k : Nat) (h : k < 39) : tab.getD (k + 1) 0 < tab.getD k 0 := by
  have := tab_falls ⟨k, h⟩
  simp only at this
  omega
theorem tab_anti : ∀ (j k : Nat), j < k → k < 40 → tab.getD k 0 < tab.getD j 0
  | j, 0, h, _ => absurd h (Nat.not_lt_zero _)
  | j, k + 1, h, hk => by
    have h1 := tab_less k (by omega)
    by_cases e : j = k
    · subst e; exact h1
    · have := tab_anti j k (by omega) (by omega); omega

theorem wt_bound {n : Int} (h : isNice n) : 15 ≤ wt n ∧ wt n ≤ 88761 := by
  unfold isNice at h
  exact tab_each ⟨(n + 20).toNat, by omega⟩
theorem wt_at (k : Nat) : wt ((k : Int) - 20) = tab.getD k 0 := by
  unfold wt
  congr 1
  omega

def tab39 : List Int := [88761, 71755, 56483, 46273, 36291, 29154, 23254, 18705, 14949, 11916, 9548, 7620, 6100, 4904, 3906, 3121, 2501, 1991, 1586, 1277, 1024, 820, 655, 526, 423, 335, 272, 215, 172, 137, 110, 87, 70, 56, 45, 36, 29, 23, 18]
theorem tab39_len : tab39.length = 39 := rfl
theorem tab39_at : ∀ k : Fin 39, tab39.getD k.val 0 = tab.getD k.val 0 := by decide +kernel
/-- the first of the first 39 that is not above w; 39, if there is none. -/
def nix (w : Int) : Nat := tab39.findIdx (fun t => decide (t ≤ w))
def niceOf (w : Int) : Int := (nix w : Int) - 20
theorem nix_le (w : Int) : nix w ≤ 39 := List.findIdx_le_length (xs := tab39) (p := fun t => decide (t ≤ w))
theorem nix_before (w : Int) (j : Nat) (h : j < nix w) : w < tab.getD j 0 := by
  have hj : j < 39 := Nat.lt_of_lt_of_le h (nix_le w)
  have := List.not_of_lt_findIdx (xs := tab39) (p := fun t => decide (t ≤ w)) h
  rw [← tab39_at ⟨j, hj⟩]
  simp only [decide_eq_false_iff_not, Int.not_le] at this
  have hj' : j < tab39.length := hj
  simpa [List.getD, hj'] using this
theorem nix_at (w : Int) (h : nix w < 39) : tab.getD (nix w) 0 ≤ w := by
  have hl : tab39.findIdx (fun t => decide (t ≤ w)) < tab39.length := h
  have := List.findIdx_getElem (xs := tab39) (p := fun t => decide (t ≤ w)) (w := hl)
  rw [← tab39_at ⟨nix w, h⟩]
  simp only [decide_eq_true_eq] at this
  have hj' : nix w < tab39.length := h
  show tab39.getD (nix w) 0 ≤ w
  rw [List.getD_eq_getElem?_getD, List.getElem?_eq_getElem hj', Option.getD_some]
  exact this
theorem nix_eq (w : Int) (k : Nat) (hk : k ≤ 39) (h : ∀ j, j < k → w < tab.getD j 0) (h2 : k < 39 → tab.getD k 0 ≤ w) : nix w = k := by
  rcases Nat.lt_trichotomy (nix w) k with a | a | a
  · have := nix_at w (by omega); have := h _ a; omega
  · exact a
  · have := nix_before w k a; have := h2 (by have := nix_le w; omega); omega

def step48 : Int := 281474976710656
def dlt (d w : Int) : Int := min (scl 1024 d w) step48

theorem U_nat (n : Int) (h0 : 0 ≤ n) (h1 : n ≤ 9223372036854775807) : U n := by unfold U M; omega
theorem U_1024 : U 1024 := by unfold U M; omega

/-- the sum of a list's weights, and its error. -/
def sumW : List Int → Int
  | [] => 0
  | n :: l => wt n + sumW l
def allNice (l : List Int) : Prop := ∀ n ∈ l, isNice n
instance (l : List Int) : Decidable (allNice l) := inferInstanceAs (Decidable (∀ n ∈ l, isNice n))
theorem sumW_snoc (l : List Int) (n : Int) : sumW (l ++ [n]) = sumW l + wt n := by
  induction l with
  | nil => simp [sumW]
  | cons a l ih => simp only [List.cons_append, sumW, ih]; omega
theorem sumW_append (l m : List Int) : sumW (l ++ m) = sumW l + sumW m := by
  induction l with
  | nil => simp [sumW]
  | cons a l ih => simp only [List.cons_append, sumW, ih]; omega
theorem sumW_reverse (l : List Int) : sumW l.reverse = sumW l := by
  induction l with
  | nil => rfl
  | cons a l ih => simp only [List.reverse_cons, sumW_append, sumW, ih]; omega
theorem sumW_bound (l : List Int) (h : allNice l) : 15 * (l.length : Int) ≤ sumW l ∧ sumW l ≤ 88761 * (l.length : Int) := by
  induction l with
  | nil => simp [sumW]
  | cons a l ih =>
    have h1 := wt_bound (h a (by simp))
    have h2 := ih (fun n hn => h n (by simp [hn]))
    simp only [sumW, List.length_cons]
    omega
def sumR0 (l : List Int) : Int := if allNice l then sumW l else 0
def sumE0 (l : List Int) : Int := if allNice l then 0 else 1
def sumE (l : List Int) : Int := if 64 < l.length then 2 else sumE0 l
def sumR (l : List Int) : Int := if 64 < l.length then 0 else sumR0 l

def shE (d n : Int) (l : List Int) : Int := if d < 0 ∨ 1099511627776 < d ∨ ¬ isNice n then 1 else if sumE l ≠ 0 then sumE l else if l = [] then 1 else 0
def shR (d n : Int) (l : List Int) : Int := if shE d n l = 0 then d * wt n / sumW l else 0

theorem share_small (d n : Int) (l : List Int) (h : shE d n l = 0) : 0 ≤ d ∧ d ≤ 1099511627776 ∧ isNice n ∧ l.length ≤ 64 ∧ allNice l ∧ l ≠ [] := by
  unfold shE at h
  by_cases a : d < 0 ∨ 1099511627776 < d ∨ ¬ isNice n
  · rw [if_pos a] at h; omega
  · rw [if_neg a] at h
    have hn : isNice n := Classical.byContradiction fun x => a (.inr (.inr x))
    by_cases b : sumE l ≠ 0
    · rw [if_pos b] at h; exact absurd h b
    · rw [if_neg b] at h
      have b' : sumE l = 0 := Classical.byContradiction b
      unfold sumE sumE0 at b'
      by_cases c : 64 < l.length
      · rw [if_pos c] at b'; omega
      · rw [if_neg c] at b'
        by_cases e : allNice l
        · by_cases f : l = []
          · rw [if_pos f] at h; omega
          · exact ⟨by omega, by omega, hn, by omega, e, f⟩
        · rw [if_neg e] at b'; omega

/-- what Share reckons by layer 1. -/
theorem scl_share (d n : Int) (l : List Int) (h : shE d n l = 0) : scl d (wt n) (sumW l) = d * wt n / sumW l ∧ 0 ≤ d * wt n / sumW l ∧ d * wt n / sumW l ≤ 97594750000000000 ∧ d * wt n ≤ 97594750000000000 ∧ 0 ≤ d * wt n := by
  obtain ⟨h0, h1, hn, hl, ha, hne⟩ := share_small d n l h
  have hw := wt_bound hn
  have hs := sumW_bound l ha
  have hp : 0 < l.length := List.length_pos_iff.2 hne
  have hm : 0 ≤ d * wt n := Int.mul_nonneg h0 (by omega)
  have hm2 : d * wt n ≤ 1099511627776 * 88761 := Int.mul_le_mul h1 hw.2 (by omega) (by omega)
  have hd : d * wt n / sumW l ≤ d * wt n := Int.ediv_le_self _ hm
  have hd0 : 0 ≤ d * wt n / sumW l := Int.ediv_nonneg hm (by omega)
  have hU : U (sumW l) := by unfold U M; omega
  refine ⟨?_, hd0, by omega, by omega, hm⟩
  rw [scl_eq _ _ _ hU, if_neg (by omega), if_pos (by unfold M; omega)]

end Go.Proofs.YtlfcnhggleagaaaDoor.Wg
