/-
  Plain facts behind the laws of layer 5: two texts with a comma between, texts that are spoilt, the text of one run (nothing of the program is imported here).
-/
import Derived.Test.YteklgnmkalippaaDoorCpN
namespace Go.Proofs.YteklgnmkalippaaDoor
namespace Cp
open Mk

/-! ### both -/
theorem parse_both {a b : Nat} (ha : V a) (hb : V b) (h1 : a ≠ 0) (h2 : b ≠ 0) : parseI (printL a ++ [44] ++ printL b) = some (a ||| b) := by
  unfold parseI
  rw [List.append_assoc, List.singleton_append, splitB_app, split_print ha h1, split_print hb h2, foldI_app, fold_all ha]
  simp only [Option.bind_some]
  rw [foldI_or, fold_all hb]
  rfl
theorem has_comma {l : List UInt8} (h : (44 : UInt8) ∈ l) : l ≠ [45] := by
  rintro rfl
  simp at h
theorem parseM_both {a b : Nat} (ha : V a) (hb : V b) (h1 : a ≠ 0) (h2 : b ≠ 0) : parseM (printL a ++ [44] ++ printL b) = a ||| b ∧ parseE (printL a ++ [44] ++ printL b) = 0 := by
  have l1 := (print_len ha).2
  have l2 := (print_len hb).2
  have hl : ¬ 1000 < (printL a ++ [44] ++ printL b).length := by simp; omega
  have hd : printL a ++ [44] ++ printL b ≠ [45] := has_comma (by simp)
  unfold parseM parseE
  simp only [if_neg hl, if_neg hd, parse_both ha hb h1 h2]
  exact ⟨rfl, rfl⟩

/-! ### spoilt -/
theorem spoilt_end (m : Nat) (c : UInt8) (hc : isDig c = false) : parseI (printL m ++ [c]) = none := by
  unfold parseI
  obtain ⟨o, p, hop⟩ := splitB_last 44 (printL m)
  rw [splitB_push c hop]
  by_cases e : c = 44
  · rw [if_pos e]
    exact foldI_bad _ (p := []) (by simp) itemN_nil
  · rw [if_neg e]
    exact foldI_bad _ (p := p ++ [c]) (by simp) (itemN_end p c hc)
theorem spoilt_zero {m : Nat} (hm : V m) (h : m ≠ 0) : parseI ([48] ++ printL m) = none := by
  unfold parseI
  have hs := split_print hm h
  cases hr : runsTo m 64 with
  | nil => exact absurd hr (runs_ne hm h)
  | cons p r =>
    rw [hr] at hs
    have e : splitB 44 ([48] ++ printL m) = (48 :: p) :: r := by
      rw [List.singleton_append, splitB, if_neg (by decide), hs]
    rw [e]
    obtain ⟨a, b, h1, h2, rfl⟩ := mem_runs hm (c := 64) (p := p) (by rw [hr]; simp)
    refine foldI_bad _ (p := 48 :: rnTxt a b) (by simp) ?_
    unfold itemN
    have hh : hd 45 (48 :: rnTxt a b) = 48 :: dg a := by
      have na := (dg_no a (by omega)).2
      unfold rnTxt
      split
      · exact hd_no (by simp [na])
      · exact hd_at (x := 48 :: dg a) (y := dg b) (by simp [na])
    rw [hh, cpuN_zero a (by omega)]
    rfl
theorem parseM_none {l : List UInt8} (hl : l.length ≤ 1000) (hd : l ≠ [45]) (h : parseI l = none) : parseM l = 0 ∧ parseE l = 3 := by
  have hl' : ¬ 1000 < l.length := by omega
  unfold parseM parseE
  simp only [if_neg hl', if_neg hd, h]
  exact ⟨rfl, rfl⟩
theorem parseM_end {m : Nat} (hm : V m) (c : UInt8) (hc : isDig c = false) : parseM (printL m ++ [c]) = 0 ∧ parseE (printL m ++ [c]) = 3 := by
  have hl := print_len hm
  refine parseM_none (by simp; omega) ?_ (spoilt_end m c hc)
  intro e
  have := congrArg List.length e
  rw [List.length_append] at this
  simp only [List.length_cons, List.length_nil] at this
  omega
theorem parseM_zero {m : Nat} (hm : V m) (h : m ≠ 0) : parseM ([48] ++ printL m) = 0 ∧ parseE ([48] ++ printL m) = 3 := by
  have hl := print_len hm
  refine parseM_none (by simp; omega) ?_ (spoilt_zero hm h)
  intro e
  have := congrArg List.length e
  rw [List.length_append] at this
  simp only [List.length_cons, List.length_nil] at this
  omega

/-! ### one run -/
theorem rng_sub (x y : Nat) (h : x ≤ y) : allM ((y : Int) + 1) = rng x y + allM (x : Int) := by
  have e : rng x y ||| allM (x : Int) = allM ((y : Int) + 1) := by
    refine ext (V_or (V_rng _ _) (V_all _)) (V_all _) fun i hi => ?_
    rw [Nat.testBit_or, tb_rng _ _ _ hi, tb_all, tb_all]
    by_cases h1 : i < x
    · have a1 : (i : Int) < x := by omega
      have a2 : (i : Int) < y + 1 := by omega
      simp [a1, a2, hi]
    · have a1 : ¬ (i : Int) < x := by omega
      by_cases h2 : i ≤ y
      · have a2 : (i : Int) < y + 1 := by omega
        have a3 : x ≤ i := by omega
        simp [a2, a3, h2, hi]
      · have a2 : ¬ (i : Int) < y + 1 := by omega
        simp [a1, a2, h2]
  rw [← e]
  refine or_le (V_rng _ _) (V_all _) ?_
  refine ext (V_and (V_rng _ _)) V_zero fun i hi => ?_
  rw [Nat.testBit_and, tb_rng _ _ _ hi, tb_all]
  by_cases h1 : i < x
  · have a1 : ¬ x ≤ i := by omega
    simp [a1]
  · have a1 : ¬ (i : Int) < x := by omega
    simp [a1]
theorem rng_bit (x y i : Nat) : (rng x y).testBit i = (decide (x ≤ i) && decide (i ≤ y) && decide (i < 64)) := by
  by_cases hi : i < 64
  · rw [tb_rng _ _ _ hi]; simp [hi]
  · rw [hi_bit (V_rng x y) (by omega)]; simp [hi]
theorem rng_starts (x y i : Nat) (h : x ≤ y) (hy : y < 64) : starts (rng x y) i = decide (i = x) := by
  unfold starts
  rw [rng_bit, rng_bit]
  by_cases e : i = x
  · subst e
    have a1 : i < 64 := by omega
    by_cases h0 : 0 < i
    · have a2 : ¬ i ≤ i - 1 := by omega
      simp [a1, a2, h]
    · simp [a1, h, h0]
  · by_cases h1 : x ≤ i
    · by_cases h2 : i ≤ y
      · have b1 : 0 < i := by omega
        have b2 : x ≤ i - 1 := by omega
        have b3 : i - 1 ≤ y := by omega
        have b4 : i - 1 < 64 := by omega
        simp [e, b1, b2, b3, b4]
      · simp [e, h2]
    · simp [e, h1]
theorem rng_last (x y : Nat) (h : x ≤ y) (hy : y < 64) : lastOf (rng x y) x = y := by
  refine last_uniq (V_rng x y) h (fun k h1 h2 => ?_) ?_
  · rw [rng_bit]
    have : k < 64 := by omega
    simp [h1, h2, this]
  · rw [rng_bit]
    have : ¬ y + 1 ≤ y := by omega
    simp [this]
theorem print_rng (x y : Nat) (h : x ≤ y) (hy : y < 64) : printL (rng x y) = rnTxt x y := by
  unfold printL
  rw [if_neg (rng_ne x y h hy)]
  have e0 : runsTo (rng x y) x = [] := by
    rw [runs_skip _ 0 x (Nat.zero_le _) fun i _ h2 => ?_]
    · rfl
    · rw [rng_starts x y i h hy]; simp; omega
  have e1 : runsTo (rng x y) (x + 1) = [rnTxt x y] := by
    rw [runsTo_succ, e0, rng_starts x y x h hy, rng_last x y h hy]; simp
  rw [runs_skip _ (x + 1) 64 (by omega) fun i h1 _ => ?_, e1, joinC_one]
  rw [rng_starts x y i h hy]; simp; omega
theorem rnTxt_short (x y : Nat) : decide ((rnTxt x y).length < 3) = decide (x = y) := by
  have h1 := dg_len x
  have h2 := dg_len y
  unfold rnTxt
  by_cases e : x = y
  · rw [if_pos e]; simp [e]; subst e; omega
  · rw [if_neg e]; simp [e]; omega
end Cp
end Go.Proofs.YteklgnmkalippaaDoor
