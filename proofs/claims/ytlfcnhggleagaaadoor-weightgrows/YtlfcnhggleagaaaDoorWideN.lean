/-
  Plain facts behind the laws of layer 1: a product divided, turned, parted; what is left over; scaling.
-/
import Derived.Test.YtlfcnhggleagaaaDoorWideM
namespace Go.Proofs.YtlfcnhggleagaaaDoor
namespace Wd

theorem Mpos : 0 < M := by unfold M; omega

theorem mulH_comm (a b : Int) : mulH a b = mulH b a := by unfold mulH; rw [Int.mul_comm]
theorem mulL_comm (a b : Int) : mulL a b = mulL b a := by unfold mulL; rw [Int.mul_comm]

/-! ### WideBack -/
theorem back_add (a b r : Int) (ha : U a) (hb : U b) (hr : 0 ≤ r ∧ r < b) :
    addH (mulH a b) (mulL a b) r = (a * b + r) / M ∧ addL (mulL a b) r = (a * b + r) % M := by
  have hp := prod_bound a b ha hb
  have := hb.2
  exact add_small _ _ r (U_mulH a b ha hb) (U_mulL a b) (by unfold U; omega) (a * b) (mul_parts a b).symm (by omega)
theorem back_div (a b r : Int) (ha : U a) (hr : 0 ≤ r ∧ r < b) (X : Int) (hX : X = a * b + r) :
    divOk (X / M) b = true ∧ divQq (X / M) (X % M) b = a ∧ divRr (X / M) (X % M) b = r := by
  have hM := Mpos
  have hk : divOk (X / M) b = true := by
    have h1 : X / M < b := by
      refine Int.ediv_lt_of_lt_mul hM ?_
      have h2 : (a + 1) * b ≤ M * b := Int.mul_le_mul_of_nonneg_right (by have := ha.2; omega) (by omega)
      rw [Int.add_mul, Int.one_mul, Int.mul_comm M] at h2
      omega
    simp [divOk, h1]; omega
  have hXe : X / M * M + X % M = X := by rw [Int.mul_comm]; exact Int.mul_ediv_add_emod X M
  have hu := div_unique (n := X) (d := b) (q := a) (r := r) (by rw [hX, Int.mul_comm]) hr.1 hr.2
  refine ⟨hk, ?_, ?_⟩
  · unfold divQq; rw [hk, if_pos rfl]; unfold divQ; rw [hXe]; exact hu.1
  · unfold divRr; rw [hk, if_pos rfl]; unfold divR; rw [hXe]; exact hu.2

/-! ### WideTurns -/
theorem turns_add (a b one : Int) (ha : U a) (hb : U b) (h0 : 0 ≤ one) (h1 : one ≤ b) :
    IntKind.u64.wrap (addH (mulH a one) (mulL a one) (mulL a (b - one)) + mulH a (b - one)) = mulH a b ∧ addL (mulL a one) (mulL a (b - one)) = mulL a b := by
  have hM := Mpos
  have ho : U one := ⟨h0, by have := hb.2; omega⟩
  have hbo : U (b - one) := ⟨by omega, by have := hb.2; omega⟩
  have hp := prod_bound a one ha ho
  have hL := U_mulL a (b - one)
  obtain ⟨e1, e2⟩ := add_small _ _ (mulL a (b - one)) (U_mulH a one ha ho) (U_mulL a one) hL (a * one) (mul_parts a one).symm (by have := hL.2; omega)
  have e3 := mul_parts a (b - one)
  have e4 : a * b = a * one + a * (b - one) := by rw [← Int.mul_add]; congr 1; omega
  have e5 : a * b = (a * one + mulL a (b - one)) + mulH a (b - one) * M := by omega
  have hU := U_mulH a b ha hb
  have e6 : (a * one + mulL a (b - one)) / M + mulH a (b - one) = mulH a b := by
    unfold mulH at *
    rw [e5, Int.add_mul_ediv_right _ _ (by omega)]
  have e7 : (a * one + mulL a (b - one)) % M = mulL a b := by
    have : mulL a b = a * b % M := rfl
    rw [this, e5, Int.add_mul_emod_self_right]
  rw [e1, e2, e6, e7]
  exact ⟨wrap_U hU, rfl⟩

/-! ### WideBounds -/
theorem bounds_no (h l d : Int) (hk : divOk h d = false) : divQq h l d = 0 ∧ divRr h l d = 0 ∧ (d = 0 ∨ d ≤ h) := by
  unfold divQq divRr
  rw [hk]
  simp [divOk] at hk
  refine ⟨rfl, rfl, ?_⟩
  by_cases h0 : d = 0
  · exact .inl h0
  · exact .inr (hk h0)
theorem bounds_yes (h l d : Int) (hh : U h) (hl : U l) (hd : U d) (hk : divOk h d = true) : divRr h l d < d ∧ addH (mulH (divQq h l d) d) (mulL (divQq h l d) d) (divRr h l d) = h ∧ addL (mulL (divQq h l d) d) (divRr h l d) = l := by
  have hM := Mpos
  have hq := U_divQq h l d hh hl
  have hd0 : 0 < d := by simp [divOk] at hk; have := hh.1; omega
  have eq : divQq h l d = (h * M + l) / d := by unfold divQq; rw [hk]; rfl
  have er : divRr h l d = (h * M + l) % d := by unfold divRr; rw [hk]; rfl
  have hr0 : 0 ≤ divRr h l d := by rw [er]; exact Int.emod_nonneg _ (by omega)
  have hr1 : divRr h l d < d := by rw [er]; exact Int.emod_lt_of_pos _ hd0
  have hX : divQq h l d * d + divRr h l d = h * M + l := by rw [eq, er, Int.mul_comm]; exact Int.mul_ediv_add_emod _ _
  obtain ⟨e1, e2⟩ := back_add (divQq h l d) d (divRr h l d) hq hd ⟨hr0, hr1⟩
  rw [hX] at e1 e2
  have hu := div_unique (n := h * M + l) (d := M) (q := h) (r := l) (by rw [Int.mul_comm]) hl.1 hl.2
  exact ⟨hr1, e1.trans hu.1, e2.trans hu.2⟩

/-! ### WideOnes -/
theorem mulH_one (a : Int) (ha : U a) : mulH a 1 = 0 := by unfold mulH; rw [Int.mul_one]; exact Int.ediv_eq_zero_of_lt ha.1 ha.2
theorem mulL_one (a : Int) (ha : U a) : mulL a 1 = a := by unfold mulL; rw [Int.mul_one]; exact Int.emod_eq_of_lt ha.1 ha.2
theorem mulH_nought (a : Int) : mulH 0 a = 0 := by unfold mulH; rw [Int.zero_mul]; simp
theorem mulL_nought (a : Int) : mulL 0 a = 0 := by unfold mulL; rw [Int.zero_mul]; simp
theorem ones_div (a b : Int) (ha : U a) : (a = 0 → divOk a 1 = true ∧ divQq a b 1 = b ∧ divRr a b 1 = 0) ∧ (a ≠ 0 → divOk a 1 = false) := by
  constructor
  · rintro rfl
    have hk : divOk 0 1 = true := by decide
    refine ⟨hk, ?_, ?_⟩
    · unfold divQq; rw [hk]; show divQ 0 b 1 = b; unfold divQ; simp
    · unfold divRr; rw [hk]; show divR 0 b 1 = 0; unfold divR; simp
  · intro h; have := ha.1; simp [divOk]; omega

/-! ### Scale -/
/-- 2^64 - 1. -/
def top : Int := 18446744073709551615
theorem top_eq : top = M - 1 := by unfold top M; omega
theorem scl_eq (a b d : Int) (hd : U d) : scl a b d = if d = 0 then top else if a * b / d < M then a * b / d else top := by
  have hM := Mpos
  unfold scl
  by_cases h0 : d = 0
  · have : divOk (mulH a b) d = false := by simp [divOk, h0]
    rw [this, if_pos h0]; rfl
  · have hp : 0 < d := by have := hd.1; omega
    rw [if_neg h0]
    have hiff : mulH a b < d ↔ a * b / d < M := by
      unfold mulH
      rw [Int.ediv_lt_iff_lt_mul hM, Int.ediv_lt_iff_lt_mul hp, Int.mul_comm d M]
    by_cases h1 : a * b / d < M
    · have hk : divOk (mulH a b) d = true := by simp [divOk, h0, hiff.2 h1]
      rw [hk, if_pos h1, if_pos rfl]
      unfold divQ
      rw [mul_parts]
    · have hk : divOk (mulH a b) d = false := by simp [divOk, h0]; have := mt hiff.1 h1; omega
      rw [hk, if_neg h1]; rfl
theorem scl_le_top (a b d : Int) (hd : U d) : scl a b d ≤ top := by
  rw [scl_eq a b d hd]
  have := top_eq
  split
  · omega
  · split <;> omega
theorem scl_self (a c : Int) (ha : U a) (hc : U c) (h : 0 < c) : scl a c c = a := by
  rw [scl_eq a c c hc, if_neg (by omega), Int.mul_ediv_cancel _ (by omega), if_pos ha.2]
theorem scl_comm (a b d : Int) : scl a b d = scl b a d := by unfold scl; rw [mulH_comm, mulL_comm]
theorem scl_zero (a b : Int) : scl a b 0 = top := by unfold scl; simp [divOk]; rfl
theorem scl_mono (a a' b d : Int) (hb : U b) (hd : U d) (h : a ≤ a') : scl a b d ≤ scl a' b d := by
  have ht := top_eq
  rw [scl_eq a b d hd, scl_eq a' b d hd]
  by_cases h0 : d = 0
  · rw [if_pos h0, if_pos h0]; omega
  · rw [if_neg h0, if_neg h0]
    have hp : 0 < d := by have := hd.1; omega
    have := Int.ediv_le_ediv hp (Int.mul_le_mul_of_nonneg_right h hb.1)
    generalize a * b / d = x at *
    generalize a' * b / d = y at *
    split <;> split <;> omega
theorem scl_anti (a b d d' : Int) (ha : U a) (hb : U b) (hd : U d) (hd' : U d') (h : d ≤ d') : scl a b d' ≤ scl a b d := by
  have ht := top_eq
  by_cases h0 : d = 0
  · rw [h0, scl_zero]; exact scl_le_top a b d' hd'
  · rw [scl_eq a b d hd, scl_eq a b d' hd', if_neg h0, if_neg (by have := hd.1; omega)]
    have hp : 0 < d := by have := hd.1; omega
    have hn := Int.mul_nonneg ha.1 hb.1
    have : a * b / d' ≤ a * b / d := by
      refine (Int.le_ediv_iff_mul_le hp).2 ?_
      have h1 : a * b / d' * d ≤ a * b / d' * d' := Int.mul_le_mul_of_nonneg_left h (Int.ediv_nonneg hn (by omega))
      exact Int.le_trans h1 (Int.ediv_mul_le _ (by omega))
    generalize a * b / d = x at *
    generalize a * b / d' = y at *
    split <;> split <;> omega
theorem U_scl (a b d : Int) (ha : U a) (hb : U b) (hd : U d) : U (scl a b d) := by
  refine ⟨?_, by have := scl_le_top a b d hd; have := top_eq; omega⟩
  rw [scl_eq a b d hd]
  have hn := Int.mul_nonneg ha.1 hb.1
  have : 0 ≤ a * b / d := Int.ediv_nonneg hn hd.1
  have : (0 : Int) ≤ top := by unfold top; omega
  split
  · omega
  · split <;> omega

/-! ### bits of two numbers -/
theorem and_le (a b : Int) (ha : U a) (hb : U b) : 0 ≤ bits .and .u64 a b ∧ bits .and .u64 a b ≤ a := by
  obtain ⟨m, rfl⟩ := Int.eq_ofNat_of_zero_le ha.1
  obtain ⟨n, rfl⟩ := Int.eq_ofNat_of_zero_le hb.1
  have hm : m < 18446744073709551616 := by have := ha.2; unfold M at this; omega
  have hn : n < 18446744073709551616 := by have := hb.2; unfold M at this; omega
  rw [bits_and_u64_nat m n hm hn]
  have : m &&& n ≤ m := Nat.and_le_left
  omega
theorem or_ge (a b : Int) (ha : U a) (hb : U b) : a ≤ bits .or .u64 a b ∧ b ≤ bits .or .u64 a b ∧ U (bits .or .u64 a b) := by
  obtain ⟨m, rfl⟩ := Int.eq_ofNat_of_zero_le ha.1
  obtain ⟨n, rfl⟩ := Int.eq_ofNat_of_zero_le hb.1
  have hm : m < 18446744073709551616 := by have := ha.2; unfold M at this; omega
  have hn : n < 18446744073709551616 := by have := hb.2; unfold M at this; omega
  rw [bits_or_u64_nat m n hm hn]
  have h1 : m ≤ m ||| n := Nat.left_le_or
  have h2 : n ≤ m ||| n := Nat.right_le_or
  have h3 : m ||| n < 2 ^ 64 := Nat.or_lt_two_pow (by omega) (by omega)
  unfold U M
  omega

end Wd
end Go.Proofs.YtlfcnhggleagaaaDoor
