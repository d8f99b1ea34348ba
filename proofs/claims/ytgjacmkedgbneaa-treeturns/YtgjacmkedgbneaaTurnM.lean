/-
  Plain facts on virtual times that go round (nothing of the program is imported here): what layer 3 reckons, as numbers.
-/
import Derived.Test.YtgjacmkedgbneaaWideM
namespace Go.Proofs.Ytgjacmkedgbneaa
namespace Tn
open Wd

/-- n is a number of 64 bits with a sign. -/
def I (n : Int) : Prop := -9223372036854775808 ≤ n ∧ n < 9223372036854775808
/-- MaxLag. -/
def mx : Int := 1125899906842624

def bef (a b : Int) : Bool := decide (1 ≤ (b - a) % M ∧ (b - a) % M ≤ 9223372036854775807)
def lat (a b : Int) : Int := if bef a b = true then b else a
def ear (a b : Int) : Int := if bef b a = true then b else a
def lagN (v m : Int) : Int := (v - m + 9223372036854775808) % M - 9223372036854775808
def atN (m l : Int) : Int := (m + l) % M
def clampN (n l m : Int) : Int := if n < l then l else if m < n then m else n
def stepN (v m d : Int) : Int := if d < 1 ∨ mx ≤ lagN v m then v else atN m (min mx (lagN v m + d))

theorem wrapI (n : Int) : IntKind.i64.wrap n = (n + 9223372036854775808) % M - 9223372036854775808 := IntKind.wrap_i64 n
theorem I_wrap (n : Int) : I (IntKind.i64.wrap n) := by rw [wrapI]; unfold I M; omega
theorem wrap_I {n : Int} (h : I n) : IntKind.i64.wrap n = n := by rw [wrapI]; unfold I M at *; omega
theorem I_lag (v m : Int) : I (lagN v m) := by unfold lagN I M; omega
theorem U_at (m l : Int) : U (atN m l) := by unfold atN U M; omega
theorem I_clamp {n l m : Int} (hn : I n) (hl : I l) (hm : I m) : I (clampN n l m) := by unfold clampN; split; exact hl; split; exact hm; exact hn
theorem U_step (v m d : Int) (hv : U v) : U (stepN v m d) := by unfold stepN; split; exact hv; exact U_at _ _
theorem U_lat {a b : Int} (ha : U a) (hb : U b) : U (lat a b) := by unfold lat; split; exact hb; exact ha
theorem U_ear {a b : Int} (ha : U a) (hb : U b) : U (ear a b) := by unfold ear; split; exact hb; exact ha

theorem lag_wrap (v m : Int) : IntKind.i64.wrap (IntKind.u64.wrap (v - m)) = lagN v m := by rw [wrapI, wrapM]; unfold lagN M; omega
theorem at_wrap (m l : Int) : IntKind.u64.wrap (m + IntKind.u64.wrap l) = atN m l := by rw [wrapM, wrapM]; unfold atN M; omega
theorem bef_iff (a b : Int) : bef a b = true ↔ (1 ≤ IntKind.u64.wrap (b - a) ∧ IntKind.u64.wrap (b - a) ≤ 9223372036854775807) := by rw [wrapM]; unfold bef; exact decide_eq_true_iff
theorem bef_not (a b : Int) : bef a b = false ↔ ¬ (1 ≤ IntKind.u64.wrap (b - a) ∧ IntKind.u64.wrap (b - a) ≤ 9223372036854775807) := by rw [wrapM]; unfold bef; exact decide_eq_false_iff_not

/-! ### At and Lag undo one another -/
theorem at_lag (a b : Int) (ha : U a) : atN b (lagN a b) = a := by unfold atN lagN U M at *; omega
theorem lag_at (a l : Int) (hl : I l) : lagN (atN a l) a = l := by unfold atN lagN I M at *; omega
theorem lag_more (a b c : Int) : lagN (IntKind.u64.wrap (a + c)) (IntKind.u64.wrap (b + c)) = lagN a b := by rw [wrapM, wrapM]; unfold lagN M; omega
theorem bef_more (a b c : Int) : bef (IntKind.u64.wrap (a + c)) (IntKind.u64.wrap (b + c)) = bef a b := by
  rw [wrapM, wrapM]
  have e : ((b + c) % M - (a + c) % M) % M = (b - a) % M := by unfold M; omega
  unfold bef; rw [e]
theorem bef_lag (a b : Int) : bef a b = decide (0 < lagN b a) := by
  unfold bef
  rw [decide_eq_decide]
  unfold lagN M; omega
theorem lag_neg (a b : Int) (h : lagN a b ≠ -9223372036854775808) : lagN b a = - lagN a b := by unfold lagN M at *; omega

/-! ### Of two times one is ahead -/
theorem bef_self (a : Int) : bef a a = false := by unfold bef M; rw [decide_eq_false_iff_not]; omega
theorem bef_asymm {a b : Int} (h : bef a b = true) : bef b a = false := by
  unfold bef M at *; rw [decide_eq_true_eq] at h; rw [decide_eq_false_iff_not]; omega
/-- .. unless they are the same, or as far apart as can be. -/
theorem same_iff (a b : Int) (ha : U a) (hb : U b) : (a = b ∨ IntKind.u64.wrap (a - b) = 9223372036854775808) ↔ (bef a b = false ∧ bef b a = false) := by
  rw [wrapM]; unfold bef U M at *
  rw [decide_eq_false_iff_not, decide_eq_false_iff_not]; omega

/-! ### Near a least time -/
def nearN (n : Int) : Int := n % 9223372036854775808 - 4611686018427387904
theorem near_b (n : Int) : -4611686018427387904 ≤ nearN n ∧ nearN n < 4611686018427387904 := by unfold nearN; omega
theorem I_near (n : Int) : I (nearN n) := by have := near_b n; unfold I; omega
theorem bef_near (m x y : Int) (hx : -4611686018427387904 ≤ x ∧ x < 4611686018427387904) (hy : -4611686018427387904 ≤ y ∧ y < 4611686018427387904) :
    bef (atN m x) (atN m y) = decide (x < y) := by
  unfold bef; rw [decide_eq_decide]; unfold atN M; omega

/-! ### Steps -/
theorem lag_step_ge (v m d : Int) (hd : I d) : lagN v m ≤ lagN (stepN v m d) m := by
  have hl := I_lag v m
  unfold stepN mx
  split
  · exact Int.le_refl _
  · rename_i h
    rw [lag_at _ _ (by unfold I at *; omega)]
    omega
theorem lag_step_le (v m d : Int) (hd : I d) : lagN (stepN v m d) m ≤ mx ∨ stepN v m d = v := by
  have hl := I_lag v m
  unfold stepN mx at *
  split
  · exact .inr rfl
  · rename_i h
    left
    rw [lag_at _ _ (by unfold I at *; omega)]
    omega
theorem step_lag (v m d : Int) (hd : I d) (h : lagN v m < mx) : lagN (stepN v m d) m = min mx (lagN v m + max d 0) := by
  have hl := I_lag v m
  unfold stepN mx at *
  split
  · omega
  · rw [lag_at _ _ (by unfold I at *; omega)]; omega
theorem lag_inj {x y m : Int} (hx : U x) (hy : U y) (h : lagN x m = lagN y m) : x = y := by
  rw [← at_lag x m hx, h, at_lag y m hy]
theorem step_far (v m d : Int) (h : mx ≤ lagN v m) : stepN v m d = v := by unfold stepN; rw [if_pos (.inr h)]
theorem step_two (v m d e : Int) (hv : U v) (hd : I d) (he : I e) (hde : I (d + e)) (d0 : 0 ≤ d) (e0 : 0 ≤ e) : stepN (stepN v m d) m e = stepN v m (d + e) := by
  by_cases h : mx ≤ lagN v m
  · rw [step_far v m d h, step_far v m e h, step_far v m _ h]
  · have h1 := step_lag v m d hd (by omega)
    have h2 := step_lag v m (d + e) hde (by omega)
    refine lag_inj (m := m) (U_step _ _ _ (U_step _ _ _ hv)) (U_step _ _ _ hv) ?_
    by_cases k : mx ≤ lagN (stepN v m d) m
    · rw [step_far _ m e k, h1, h2]; omega
    · rw [step_lag _ m e he (by omega), h1, h2]; omega

/-! ### Bounds -/
theorem clamp_ge (n l m : Int) (h : l ≤ m) : l ≤ clampN n l m := by unfold clampN; split; exact Int.le_refl _; split; exact h; omega
theorem clamp_le (n l m : Int) (h : l ≤ m) : clampN n l m ≤ m := by unfold clampN; split; omega; split <;> omega
theorem clamp_eq (n l m : Int) : clampN n l m = n ↔ (l ≤ n ∧ n ≤ m) := by unfold clampN; split; omega; split <;> omega
theorem clamp_two (n l m : Int) (h : l ≤ m) : clampN (clampN n l m) l m = clampN n l m := (clamp_eq _ l m).2 ⟨clamp_ge n l m h, clamp_le n l m h⟩
end Tn
end Go.Proofs.Ytgjacmkedgbneaa
