/-
  Plain facts on the texts of masks (nothing of the program is imported here): numbers, items, the pieces between commas, the runs of a mask; reading undoes writing.
-/
import Derived.Test.YteklgnmkalippaaDoorMskM
import Derived.Lib.ItoaNum
import Derived.Lib.AtoiAll
import Derived.Lib.Bytealg
import Derived.Lib.Join
namespace Go.Proofs.YteklgnmkalippaaDoor
namespace Cp
open Mk

/-! ### numbers -/
/-- n's digits, n below 100. -/
def dg (n : Nat) : List UInt8 := if n < 10 then [UInt8.ofNat (48 + n)] else [UInt8.ofNat (48 + n / 10), UInt8.ofNat (48 + n % 10)]
theorem dec_dg (n : Nat) (h : n < 100) : Lib.decDigits n = dg n := by
  unfold dg
  split
  · rename_i h1
    rw [Lib.decDigits, dif_pos h1]
  · rename_i h1
    rw [Lib.decDigits, dif_neg h1, Lib.decDigits, dif_pos (by omega)]
    rfl
theorem dg_len (n : Nat) : 1 ≤ (dg n).length ∧ (dg n).length ≤ 2 := by unfold dg; split <;> simp
theorem dg_ne (n : Nat) : dg n ≠ [] := by unfold dg; split <;> simp
def isDig (b : UInt8) : Bool := decide (48 ≤ b.toNat) && decide (b.toNat ≤ 57)
theorem dg_dig : ∀ n, n < 64 → (dg n).all isDig = true := by decide +kernel

/-- The CPU whose number l is. -/
def cpuN (l : List UInt8) : Option Nat := (List.range 64).find? (fun n => dg n == l)
theorem cpuN_some {l : List UInt8} {n : Nat} (h : cpuN l = some n) : n < 64 ∧ dg n = l := by
  refine ⟨?_, ?_⟩
  · simpa using List.mem_range.1 (List.mem_of_find?_eq_some h)
  · simpa using List.find?_some h
theorem cpuN_dg : ∀ n, n < 64 → cpuN (dg n) = some n := by decide +kernel
theorem cpuN_none {l : List UInt8} (h : ∀ n, n < 64 → dg n ≠ l) : cpuN l = none := by
  cases e : cpuN l with
  | none => rfl
  | some n => obtain ⟨h1, h2⟩ := cpuN_some e; exact absurd h2 (h n h1)
theorem cpuN_bad {l : List UInt8} {c : UInt8} (hc : c ∈ l) (hd : isDig c = false) : cpuN l = none := by
  refine cpuN_none fun n hn e => ?_
  have := dg_dig n hn
  rw [List.all_eq_true] at this
  rw [← e] at hc
  rw [this c hc] at hd
  cases hd
theorem cpuN_nil : cpuN [] = none := cpuN_none fun n _ => dg_ne n
theorem cpuN_zero : ∀ n, n < 64 → cpuN (48 :: dg n) = none := by decide +kernel
theorem atoi_dg : ∀ n, n < 64 → Lib.atoiAll (dg n) = .ok (n : Int) := by decide +kernel

/-! ### up to a sign, and behind it -/
def hd (c : UInt8) (l : List UInt8) : List UInt8 := l.takeWhile (· != c)
def tl (c : UInt8) (l : List UInt8) : List UInt8 := (l.dropWhile (· != c)).drop 1
theorem hd_no {c : UInt8} {l : List UInt8} (h : c ∉ l) : hd c l = l := by
  induction l with
  | nil => rfl
  | cons b l ih =>
    simp only [List.mem_cons, not_or] at h
    have hb : (b != c) = true := by simp; exact fun e => h.1 e.symm
    have := ih h.2
    unfold hd at *
    rw [List.takeWhile_cons, hb]; simp [this]
theorem hd_at {c : UInt8} {x y : List UInt8} (h : c ∉ x) : hd c (x ++ c :: y) = x := by
  induction x with
  | nil => simp [hd]
  | cons b x ih =>
    simp only [List.mem_cons, not_or] at h
    have hb : (b != c) = true := by simp; exact fun e => h.1 e.symm
    have := ih h.2
    unfold hd at *
    rw [List.cons_append, List.takeWhile_cons, hb]; simp [this]
theorem tl_at {c : UInt8} {x y : List UInt8} (h : c ∉ x) : tl c (x ++ c :: y) = y := by
  induction x with
  | nil => simp [tl]
  | cons b x ih =>
    simp only [List.mem_cons, not_or] at h
    have hb : (b != c) = true := by simp; exact fun e => h.1 e.symm
    have := ih h.2
    unfold tl at *
    rw [List.cons_append, List.dropWhile_cons, hb]; simpa using this
theorem parts {c : UInt8} {l : List UInt8} (h : c ∈ l) : ∃ x y, l = x ++ c :: y ∧ c ∉ x := by
  induction l with
  | nil => cases h
  | cons b l ih =>
    by_cases e : b = c
    · exact ⟨[], l, by rw [e]; rfl, by simp⟩
    · obtain ⟨x, y, e1, e2⟩ := ih (by simpa [Ne.symm e] using h)
      exact ⟨b :: x, y, by rw [e1]; rfl, by simp [Ne.symm e, e2]⟩
theorem ix_no {c : UInt8} {l : List UInt8} (h : c ∉ l) : Lib.indexByte l c = -1 := by
  induction l with
  | nil => rfl
  | cons b l ih =>
    simp only [List.mem_cons, not_or] at h
    have hb : (b == c) = false := by simp; exact fun e => h.1 e.symm
    rw [Lib.indexByte, hb, ih h.2]; rfl
theorem ix_at {c : UInt8} {x y : List UInt8} (h : c ∉ x) : Lib.indexByte (x ++ c :: y) c = (x.length : Nat) := by
  induction x with
  | nil => simp [Lib.indexByte]
  | cons b x ih =>
    simp only [List.mem_cons, not_or] at h
    have hb : (b == c) = false := by simp; exact fun e => h.1 e.symm
    rw [List.cons_append, Lib.indexByte, hb, ih h.2]
    have : (((x.length : Nat) : Int) == -1) = false := by simp
    rw [this]; simp

/-! ### an item -/
/-- All from a to b. -/
def rng (a b : Nat) : Nat := andN (allM ((b : Int) + 1)) (allM (a : Int))
theorem V_rng (a b : Nat) : V (rng a b) := V_andN (V_all _)
theorem tb_rng (a b i : Nat) (hi : i < 64) : (rng a b).testBit i = (decide (a ≤ i) && decide (i ≤ b)) := by
  unfold rng
  rw [tb_andN _ _ (V_all _) (V_all _), tb_all, tb_all]
  by_cases h1 : a ≤ i
  · have : ¬ (i : Int) < a := by omega
    by_cases h2 : i ≤ b
    · have : (i : Int) < b + 1 := by omega
      simp [*]
    · have : ¬ (i : Int) < b + 1 := by omega
      simp [*]
  · have : (i : Int) < a := by omega
    simp [*]
theorem rng_ne (a b : Nat) (h : a ≤ b) (hb : b < 64) : rng a b ≠ 0 := by
  intro e
  have := tb_rng a b a (by omega)
  rw [e] at this
  simp at this; omega
def second (l : List UInt8) : List UInt8 := if 45 ∈ l then tl 45 l else l
def pairN : Option Nat → Option Nat → Option Nat
  | some a, some b => if a ≤ b then some (rng a b) else none
  | _, _ => none
def itemN (l : List UInt8) : Option Nat := pairN (cpuN (hd 45 l)) (cpuN (second l))
theorem pairN_none (x : Option Nat) : pairN x none = none := by cases x <;> rfl
theorem itemN_ne {l : List UInt8} {x : Nat} (h : itemN l = some x) : x ≠ 0 ∧ V x := by
  unfold itemN at h
  cases ha : cpuN (hd 45 l) with
  | none => rw [ha] at h; cases h
  | some a =>
    cases hb : cpuN (second l) with
    | none => rw [ha, hb] at h; cases h
    | some b =>
      rw [ha, hb] at h
      simp only [pairN] at h
      split at h
      · rename_i hab
        injection h with h
        subst h
        exact ⟨rng_ne a b hab (cpuN_some hb).1, V_rng a b⟩
      · cases h
theorem itemN_nil : itemN [] = none := by
  unfold itemN
  have : cpuN (hd 45 []) = none := cpuN_nil
  rw [this]; rfl
theorem itemN_end (l : List UInt8) (c : UInt8) (hc : isDig c = false) : itemN (l ++ [c]) = none := by
  have key : cpuN (second (l ++ [c])) = none := by
    by_cases h : 45 ∈ l
    · obtain ⟨x, y, rfl, hx⟩ := parts h
      have e : second ((x ++ 45 :: y) ++ [c]) = y ++ [c] := by
        unfold second
        rw [if_pos (by simp), List.append_assoc, List.cons_append, tl_at hx]
      rw [e]
      exact cpuN_bad (c := c) (by simp) hc
    · by_cases h2 : c = 45
      · subst h2
        have e : second (l ++ [45]) = [] := by
          unfold second
          rw [if_pos (by simp), tl_at h]
        rw [e]; exact cpuN_nil
      · have e : second (l ++ [c]) = l ++ [c] := by
          unfold second
          rw [if_neg (by simp [h, Ne.symm h2])]
        rw [e]
        exact cpuN_bad (c := c) (by simp) hc
  unfold itemN
  rw [key, pairN_none]
theorem itemN_comma : itemN [44] = none := itemN_end [] 44 (by decide)

/-! ### pieces -/
def splitB (c : UInt8) : List UInt8 → List (List UInt8)
  | [] => [[]]
  | b :: l => if b = c then [] :: splitB c l else match splitB c l with
    | [] => [[b]]
    | h :: t => (b :: h) :: t
theorem splitB_ne (c : UInt8) (l : List UInt8) : splitB c l ≠ [] := by
  cases l with
  | nil => simp [splitB]
  | cons b l =>
    simp only [splitB]
    split
    · simp
    · split <;> simp
theorem splitB_no {c : UInt8} {l : List UInt8} (h : c ∉ l) : splitB c l = [l] := by
  induction l with
  | nil => rfl
  | cons b l ih =>
    simp only [List.mem_cons, not_or] at h
    rw [splitB, if_neg (Ne.symm h.1), ih h.2]
theorem splitB_app (c : UInt8) (x y : List UInt8) : splitB c (x ++ c :: y) = splitB c x ++ splitB c y := by
  induction x with
  | nil => simp [splitB]
  | cons b x ih =>
    rw [List.cons_append, splitB, splitB, ih]
    by_cases e : b = c
    · rw [if_pos e, if_pos e]; rfl
    · rw [if_neg e, if_neg e]
      cases hs : splitB c x with
      | nil => exact absurd hs (splitB_ne c x)
      | cons h t => rfl
theorem splitB_at {c : UInt8} {x : List UInt8} (y : List UInt8) (h : c ∉ x) : splitB c (x ++ c :: y) = x :: splitB c y := by
  rw [splitB_app, splitB_no h]; rfl
theorem splitB_push {c : UInt8} {l : List UInt8} {o : List (List UInt8)} {p : List UInt8} (b : UInt8) (h : splitB c l = o ++ [p]) :
    splitB c (l ++ [b]) = if b = c then o ++ [p] ++ [[]] else o ++ [p ++ [b]] := by
  by_cases e : b = c
  · subst e
    rw [if_pos rfl, splitB_app, h]; rfl
  · rw [if_neg e]
    induction l generalizing o p with
    | nil =>
      have : o = [] ∧ p = [] := by
        rw [splitB] at h
        cases o with
        | nil => simp at h; exact ⟨rfl, h⟩
        | cons a o => simp at h
      obtain ⟨rfl, rfl⟩ := this
      rw [List.nil_append, splitB, if_neg e]; rfl
    | cons a l ih =>
      rw [List.cons_append, splitB]
      rw [splitB] at h
      by_cases e2 : a = c
      · rw [if_pos e2] at h ⊢
        cases o with
        | nil =>
          simp at h
          exact absurd h.2 (splitB_ne c l)
        | cons q o =>
          simp at h
          rw [ih h.2, ← h.1]; rfl
      · rw [if_neg e2] at h ⊢
        cases hs : splitB c l with
        | nil => exact absurd hs (splitB_ne c l)
        | cons q t =>
          rw [hs] at h
          simp only at h
          cases o with
          | nil =>
            simp at h
            obtain ⟨h1, h2⟩ := h
            rw [ih (o := []) (p := q) (by rw [hs, h2]; rfl), ← h1]; rfl
          | cons q2 o =>
            simp at h
            obtain ⟨h1, h2⟩ := h
            rw [ih (o := q :: o) (p := p) (by rw [hs, h2]; rfl), ← h1]; rfl
theorem splitB_last (c : UInt8) (l : List UInt8) : ∃ o p, splitB c l = o ++ [p] := by
  have h := splitB_ne c l
  exact ⟨_, _, (List.dropLast_concat_getLast h).symm⟩

/-! ### items -/
def foldI : Nat → List (List UInt8) → Option Nat
  | m, [] => some m
  | m, p :: ps => match itemN p with
    | none => none
    | some x => foldI (m ||| x) ps
theorem foldI_app (m : Nat) (ps qs : List (List UInt8)) : foldI m (ps ++ qs) = (foldI m ps).bind fun x => foldI x qs := by
  induction ps generalizing m with
  | nil => rfl
  | cons p ps ih =>
    rw [List.cons_append, foldI, foldI]
    cases itemN p with
    | none => rfl
    | some x => exact ih _
theorem foldI_bad (m : Nat) {ps : List (List UInt8)} {p : List UInt8} (h : p ∈ ps) (hp : itemN p = none) : foldI m ps = none := by
  induction ps generalizing m with
  | nil => cases h
  | cons q ps ih =>
    rw [foldI]
    rcases List.mem_cons.1 h with e | e
    · rw [← e, hp]
    · cases itemN q with
      | none => rfl
      | some x => exact ih _ e
theorem foldI_or (m : Nat) (ps : List (List UInt8)) : foldI m ps = (foldI 0 ps).map (m ||| ·) := by
  induction ps generalizing m with
  | nil => simp [foldI]
  | cons p ps ih =>
    rw [foldI, foldI]
    cases itemN p with
    | none => rfl
    | some x =>
      simp only
      rw [ih (m ||| x), ih (0 ||| x), Nat.zero_or]
      cases foldI 0 ps with
      | none => rfl
      | some y => simp [Nat.or_assoc]
theorem V_foldI {m : Nat} {ps : List (List UInt8)} {x : Nat} (hm : V m) (h : foldI m ps = some x) : V x := by
  induction ps generalizing m with
  | nil => simp [foldI] at h; rw [← h]; exact hm
  | cons p ps ih =>
    rw [foldI] at h
    cases hp : itemN p with
    | none => rw [hp] at h; cases h
    | some y => rw [hp] at h; exact ih (V_or hm (itemN_ne hp).2) h
theorem or_ne {a b : Nat} (h : b ≠ 0) : a ||| b ≠ 0 := by
  intro e
  apply h
  refine Nat.eq_of_testBit_eq fun i => ?_
  have := congrArg (fun x => x.testBit i) e
  simp [Nat.testBit_or] at this
  simp [this.2]
def parseI (l : List UInt8) : Option Nat := foldI 0 (splitB 44 l)
/-- What a text is, and the error. -/
def parseM (l : List UInt8) : Nat := if 1000 < l.length then 0 else if l = [45] then 0 else (parseI l).getD 0
def parseE (l : List UInt8) : Int := if 1000 < l.length then 2 else if l = [45] then 0 else if (parseI l).isSome then 0 else 3
theorem V_parseM (l : List UInt8) : V (parseM l) := by
  unfold parseM
  split
  · exact V_zero
  · split
    · exact V_zero
    · cases h : parseI l with
      | none => exact V_zero
      | some x => exact V_foldI V_zero h
theorem parseE_cases (l : List UInt8) : parseE l = 0 ∨ (parseM l = 0 ∧ (parseE l = 2 ∨ parseE l = 3)) := by
  unfold parseE parseM
  split
  · exact .inr ⟨rfl, .inl rfl⟩
  · split
    · exact .inl rfl
    · cases parseI l with
      | none => exact .inr ⟨rfl, .inr rfl⟩
      | some x => exact .inl rfl

/-! ### runs -/
def starts (m c : Nat) : Bool := m.testBit c && !(decide (0 < c) && m.testBit (c - 1))
def lastF : Nat → Nat → Nat → Nat
  | 0, _, c => c
  | f + 1, m, c => if m.testBit (c + 1) then lastF f m (c + 1) else c
def lastOf (m c : Nat) : Nat := lastF 64 m c
theorem lastF_spec (f m c : Nat) (h : m.testBit c = true) : c ≤ lastF f m c ∧ lastF f m c ≤ c + f ∧ (∀ k, c ≤ k → k ≤ lastF f m c → m.testBit k = true) ∧ (lastF f m c < c + f → m.testBit (lastF f m c + 1) = false) := by
  induction f generalizing c with
  | zero => exact ⟨Nat.le_refl _, Nat.le_refl _, fun k h1 h2 => by simp only [lastF] at h2; rwa [show k = c by omega], fun h => by simp [lastF] at h⟩
  | succ f ih =>
    rw [lastF]
    cases hb : m.testBit (c + 1) with
    | true =>
      obtain ⟨h1, h2, h3, h4⟩ := ih (c + 1) hb
      simp only [if_true]
      refine ⟨by omega, by omega, fun k k1 k2 => ?_, fun h => h4 (by omega)⟩
      by_cases e : k = c
      · rw [e]; exact h
      · exact h3 k (by omega) k2
    | false =>
      simp only [Bool.false_eq_true, if_false]
      exact ⟨Nat.le_refl _, by omega, fun k k1 k2 => by rwa [show k = c by omega], fun _ => hb⟩
theorem last_spec {m c : Nat} (hm : V m) (h : m.testBit c = true) : c ≤ lastOf m c ∧ lastOf m c < 64 ∧ (∀ k, c ≤ k → k ≤ lastOf m c → m.testBit k = true) ∧ m.testBit (lastOf m c + 1) = false := by
  have hc : c < 64 := by
    by_cases hc : c < 64
    · exact hc
    · rw [hi_bit hm (by omega)] at h; cases h
  obtain ⟨h1, h2, h3, h4⟩ := lastF_spec 64 m c h
  have hl : lastOf m c < 64 := by
    by_cases hl : lastOf m c < 64
    · exact hl
    · have := h3 (lastOf m c) h1 (Nat.le_refl _)
      rw [hi_bit hm (by omega)] at this; cases this
  exact ⟨h1, hl, h3, h4 (by show lastOf m c < _; omega)⟩
theorem last_uniq {m c e : Nat} (hm : V m) (h0 : c ≤ e) (h1 : ∀ k, c ≤ k → k ≤ e → m.testBit k = true) (h2 : m.testBit (e + 1) = false) : lastOf m c = e := by
  obtain ⟨a, -, b, d⟩ := last_spec hm (h1 c (Nat.le_refl _) h0)
  by_cases h : lastOf m c < e
  · rw [h1 (lastOf m c + 1) (by omega) (by omega)] at d; cases d
  · by_cases h' : e < lastOf m c
    · rw [b (e + 1) (by omega) (by omega)] at h2; cases h2
    · omega

def rnTxt (a b : Nat) : List UInt8 := if a = b then dg a else dg a ++ 45 :: dg b
def oneRun (m i : Nat) : Option (List UInt8) := if starts m i then some (rnTxt i (lastOf m i)) else none
def runsTo (m c : Nat) : List (List UInt8) := (List.range c).filterMap (oneRun m)
theorem runsTo_succ (m c : Nat) : runsTo m (c + 1) = runsTo m c ++ (if starts m c then [rnTxt c (lastOf m c)] else []) := by
  unfold runsTo
  rw [List.range_succ, List.filterMap_append]
  cases h : starts m c <;> simp [oneRun, h]
theorem runsTo_zero (m : Nat) : runsTo m 0 = [] := rfl
/-- the text of runs, with a comma between two. -/
def joinC (ps : List (List UInt8)) : List UInt8 := Lib.join ps [44]
theorem joinC_cons (x : List UInt8) (r : List (List UInt8)) (h : r ≠ []) : joinC (x :: r) = x ++ 44 :: joinC r := by
  unfold joinC
  cases r with
  | nil => exact absurd rfl h
  | cons y r =>
    rw [Lib.join_cons, Lib.join_cons]
    simp [Lib.joinTail]
theorem joinC_one (x : List UInt8) : joinC [x] = x := Lib.join_one x _
theorem joinC_snoc (ps : List (List UInt8)) (p : List UInt8) (h : ps ≠ []) : joinC (ps ++ [p]) = joinC ps ++ 44 :: p := by
  induction ps with
  | nil => exact absurd rfl h
  | cons x r ih =>
    by_cases hr : r = []
    · subst hr
      rw [List.cons_append, List.nil_append, joinC_cons _ _ (by simp), joinC_one, joinC_one]
    · rw [List.cons_append, joinC_cons _ _ (by simp), ih hr, joinC_cons _ _ hr]; simp
theorem splitB_join {ps : List (List UInt8)} (h : ps ≠ []) (hc : ∀ p ∈ ps, (44 : UInt8) ∉ p) : splitB 44 (joinC ps) = ps := by
  induction ps with
  | nil => exact absurd rfl h
  | cons x r ih =>
    by_cases hr : r = []
    · subst hr
      rw [joinC_one, splitB_no (hc x (by simp))]
    · rw [joinC_cons _ _ hr, splitB_at _ (hc x (by simp)), ih hr fun p hp => hc p (by simp [hp])]
def printL (m : Nat) : List UInt8 := if m = 0 then [45] else joinC (runsTo m 64)

theorem dg_no : ∀ n, n < 64 → (44 : UInt8) ∉ dg n ∧ (45 : UInt8) ∉ dg n := by decide +kernel
theorem rnTxt_no {a b : Nat} (ha : a < 64) (hb : b < 64) : (44 : UInt8) ∉ rnTxt a b := by
  unfold rnTxt
  split
  · exact (dg_no a ha).1
  · simp [(dg_no a ha).1, (dg_no b hb).1]
theorem rnTxt_len (a b : Nat) : 1 ≤ (rnTxt a b).length ∧ (rnTxt a b).length ≤ 5 := by
  have h1 := dg_len a
  have h2 := dg_len b
  unfold rnTxt
  split
  · omega
  · simp; omega
theorem rnTxt_ne (a b : Nat) : rnTxt a b ≠ [] := by
  intro e
  have := (rnTxt_len a b).1
  rw [e] at this; simp at this
theorem rnTxt_item {a b : Nat} (h : a ≤ b) (hb : b < 64) : itemN (rnTxt a b) = some (rng a b) := by
  have ha : a < 64 := by omega
  have na := (dg_no a ha).2
  unfold rnTxt itemN
  split
  · rename_i e
    subst e
    rw [hd_no na]
    have : second (dg a) = dg a := by unfold second; rw [if_neg na]
    rw [this, cpuN_dg a ha]
    simp [pairN]
  · rw [hd_at na]
    have : second (dg a ++ 45 :: dg b) = dg b := by unfold second; rw [if_pos (by simp), tl_at na]
    rw [this, cpuN_dg a ha, cpuN_dg b hb]
    simp [pairN, h]
theorem starts_bit {m i : Nat} (h : starts m i = true) : m.testBit i = true := by unfold starts at h; rw [Bool.and_eq_true] at h; exact h.1
theorem mem_runs {m c : Nat} {p : List UInt8} (hm : V m) (h : p ∈ runsTo m c) : ∃ a b, a ≤ b ∧ b < 64 ∧ p = rnTxt a b := by
  unfold runsTo at h
  rw [List.mem_filterMap] at h
  obtain ⟨i, -, hi⟩ := h
  unfold oneRun at hi
  split at hi
  · rename_i hs
    injection hi with hi
    obtain ⟨h1, h2, -⟩ := last_spec hm (starts_bit hs)
    exact ⟨i, lastOf m i, h1, h2, hi.symm⟩
  · cases hi

/-- reading the runs below c. -/
theorem fold_runs {m : Nat} (hm : V m) (c : Nat) : ∃ y, foldI 0 (runsTo m c) = some y ∧ V y ∧ ∀ i, i < 64 → (y.testBit i = true ↔ ∃ a, a < c ∧ starts m a = true ∧ a ≤ i ∧ i ≤ lastOf m a) := by
  induction c with
  | zero => exact ⟨0, rfl, V_zero, fun i _ => by simp⟩
  | succ c ih =>
    obtain ⟨y, h1, h2, h3⟩ := ih
    rw [runsTo_succ]
    cases hs : starts m c with
    | false =>
      refine ⟨y, by simp [h1], h2, fun i hi => ?_⟩
      rw [h3 i hi]
      constructor
      · rintro ⟨a, ha, r⟩; exact ⟨a, by omega, r⟩
      · rintro ⟨a, ha, r1, r⟩
        have : a ≠ c := by rintro rfl; rw [hs] at r1; cases r1
        exact ⟨a, by omega, r1, r⟩
    | true =>
      obtain ⟨l1, l2, -⟩ := last_spec hm (starts_bit hs)
      refine ⟨y ||| rng c (lastOf m c), ?_, V_or h2 (V_rng _ _), fun i hi => ?_⟩
      · rw [foldI_app, h1]
        simp [foldI, rnTxt_item l1 l2]
      · rw [Nat.testBit_or, Bool.or_eq_true, h3 i hi, tb_rng _ _ _ hi]
        constructor
        · rintro (⟨a, ha, r⟩ | h)
          · exact ⟨a, by omega, r⟩
          · simp at h; exact ⟨c, by omega, hs, h.1, h.2⟩
        · rintro ⟨a, ha, r1, r2, r3⟩
          by_cases e : a = c
          · subst e; exact .inr (by simp [r2, r3])
          · exact .inl ⟨a, by omega, r1, r2, r3⟩
/-- each CPU of m lies in a run. -/
theorem in_run {m : Nat} (hm : V m) (i : Nat) (h : m.testBit i = true) : ∃ a, a ≤ i ∧ starts m a = true ∧ i ≤ lastOf m a := by
  induction i with
  | zero =>
    have hs : starts m 0 = true := by unfold starts; simp [h]
    exact ⟨0, Nat.le_refl _, hs, Nat.zero_le _⟩
  | succ i ih =>
    cases hb : m.testBit i with
    | false =>
      have hs : starts m (i + 1) = true := by unfold starts; simp [h, hb]
      exact ⟨i + 1, Nat.le_refl _, hs, (last_spec hm h).1⟩
    | true =>
      obtain ⟨a, h1, h2, h3⟩ := ih hb
      refine ⟨a, by omega, h2, ?_⟩
      obtain ⟨-, -, -, l4⟩ := last_spec hm (starts_bit h2)
      by_cases e : lastOf m a = i
      · rw [e, h] at l4; cases l4
      · omega
theorem fold_all {m : Nat} (hm : V m) : foldI 0 (runsTo m 64) = some m := by
  obtain ⟨y, h1, h2, h3⟩ := fold_runs hm 64
  rw [h1]
  congr 1
  refine ext h2 hm fun i hi => ?_
  have := h3 i hi
  cases hb : m.testBit i with
  | true =>
    obtain ⟨a, k1, k2, k3⟩ := in_run hm i hb
    exact this.2 ⟨a, by omega, k2, k1, k3⟩
  | false =>
    cases hy : y.testBit i with
    | false => rfl
    | true =>
      obtain ⟨a, -, k2, k3, k4⟩ := this.1 hy
      rw [(last_spec hm (starts_bit k2)).2.2.1 i k3 k4] at hb; cases hb
theorem runs_ne {m : Nat} (hm : V m) (h : m ≠ 0) : runsTo m 64 ≠ [] := by
  intro e
  have := fold_all hm
  rw [e] at this
  simp [foldI] at this
  exact h this.symm
theorem split_print {m : Nat} (hm : V m) (h : m ≠ 0) : splitB 44 (printL m) = runsTo m 64 := by
  unfold printL
  rw [if_neg h]
  refine splitB_join (runs_ne hm h) fun p hp => ?_
  obtain ⟨a, b, h1, h2, rfl⟩ := mem_runs hm hp
  exact rnTxt_no (by omega) h2
theorem parse_print {m : Nat} (hm : V m) (h : m ≠ 0) : parseI (printL m) = some m := by
  unfold parseI
  rw [split_print hm h, fold_all hm]

/-! ### how long -/
theorem starts_far {m c : Nat} (h : starts m (c + 1) = true) : starts m c = false := by
  unfold starts at *
  simp at h
  simp [h.2]
theorem runs_count (m c : Nat) : (runsTo m c).length ≤ (c + 1) / 2 ∧ (runsTo m (c + 1)).length ≤ (c + 2) / 2 := by
  induction c with
  | zero =>
    refine ⟨by simp [runsTo_zero], ?_⟩
    rw [runsTo_succ, runsTo_zero]
    split <;> simp
  | succ c ih =>
    refine ⟨ih.2, ?_⟩
    rw [runsTo_succ]
    cases hs : starts m (c + 1) with
    | false => simp; omega
    | true =>
      rw [runsTo_succ, starts_far hs]
      simp; omega
theorem join_len {ps : List (List UInt8)} (h : ∀ p ∈ ps, p.length ≤ 5) : (joinC ps).length + 1 ≤ 6 * ps.length + (if ps = [] then 1 else 0) := by
  induction ps with
  | nil => simp [joinC, Lib.join_nil]
  | cons x r ih =>
    have hx := h x (by simp)
    by_cases hr : r = []
    · subst hr
      rw [joinC_one]; simp; omega
    · have := ih fun p hp => h p (by simp [hp])
      rw [joinC_cons _ _ hr]
      simp [hr] at this ⊢
      omega
theorem print_len {m : Nat} (hm : V m) : 1 ≤ (printL m).length ∧ (printL m).length ≤ 191 := by
  unfold printL
  split
  · simp
  · rename_i h
    have hc := (runs_count m 64).1
    have hl := join_len (ps := runsTo m 64) fun p hp => by
      obtain ⟨a, b, -, -, rfl⟩ := mem_runs hm hp
      exact (rnTxt_len a b).2
    have hn := runs_ne hm h
    rw [if_neg hn] at hl
    refine ⟨?_, by omega⟩
    cases hr : runsTo m 64 with
    | nil => exact absurd hr hn
    | cons x r =>
      obtain ⟨a, b, -, -, rfl⟩ := mem_runs hm (c := 64) (p := x) (by rw [hr]; simp)
      have := (rnTxt_len a b).1
      by_cases e : r = []
      · subst e; rw [joinC_one]; exact this
      · rw [joinC_cons _ _ e]; simp; omega
theorem join_ne {ps : List (List UInt8)} (h : ps ≠ []) (hp : ∀ p ∈ ps, p ≠ []) : joinC ps ≠ [] := by
  cases ps with
  | nil => exact absurd rfl h
  | cons x r =>
    have hx := hp x (by simp)
    by_cases e : r = []
    · subst e; rw [joinC_one]; exact hx
    · rw [joinC_cons _ _ e]; simp
theorem print_dash {m : Nat} (hm : V m) (h : m ≠ 0) : printL m ≠ [45] := by
  intro e
  have := parse_print hm h
  rw [e] at this
  have k : parseI [45] = none := by decide +kernel
  rw [k] at this; cases this
theorem parseM_print {m : Nat} (hm : V m) : parseM (printL m) = m ∧ parseE (printL m) = 0 := by
  have hl := (print_len hm).2
  have hl' : ¬ 1000 < (printL m).length := by omega
  unfold parseM parseE
  simp only [if_neg hl']
  by_cases h : m = 0
  · subst h; exact ⟨rfl, rfl⟩
  · simp only [if_neg (print_dash hm h), parse_print hm h]; exact ⟨rfl, rfl⟩
theorem print_inj {a b : Nat} (ha : V a) (hb : V b) (h : printL a = printL b) : a = b := by
  rw [← (parseM_print ha).1, h, (parseM_print hb).1]
end Cp
end Go.Proofs.YteklgnmkalippaaDoor
