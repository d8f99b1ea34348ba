/-
  Plain facts on masks of 64 bits, as natural numbers (nothing of the program is imported here): which CPUs a mask has, rising; what is put in and taken out; the least one above another.
-/
import Derived.Laws.Bits64b
import Derived.Laws.BitsLemmas
import Derived.Laws.BitsAllLaws
import Derived.Lib.TrailingZeros
namespace Go.Proofs.YtjikabalpejmlaaDoor
namespace Mk

/-- n is a mask. -/
def V (x : Nat) : Prop := x < 18446744073709551616
theorem V_pow (x : Nat) : V x ↔ x < 2 ^ 64 := by unfold V; constructor <;> intro h <;> omega
theorem V_zero : V 0 := by unfold V; omega

theorem hi_bit {x i : Nat} (h : V x) (hi : 64 ≤ i) : x.testBit i = false := Nat.testBit_lt_two_pow (Nat.lt_of_lt_of_le ((V_pow x).1 h) (Nat.pow_le_pow_right (by omega) hi))
theorem ext {x y : Nat} (hx : V x) (hy : V y) (h : ∀ i, i < 64 → x.testBit i = y.testBit i) : x = y := by
  refine Nat.eq_of_testBit_eq fun i => ?_
  by_cases hi : i < 64
  · exact h i hi
  · rw [hi_bit hx (by omega), hi_bit hy (by omega)]

/-! ### c's bit, and what is made of it -/
def bt (c : Int) : Nat := if 0 ≤ c ∧ c < 64 then 2 ^ c.toNat else 0
def andN (a b : Nat) : Nat := a &&& (18446744073709551615 - b)
theorem bt_at (k : Nat) (h : k < 64) : bt (k : Int) = 2 ^ k := by unfold bt; rw [if_pos ⟨by omega, by omega⟩]; simp
theorem bt_no (c : Int) (h : c < 0 ∨ 64 ≤ c) : bt c = 0 := by unfold bt; rw [if_neg (by omega)]
theorem V_two_pow (k : Nat) (h : k < 64) : V (2 ^ k) := (V_pow _).2 (Nat.pow_lt_pow_right (by omega) h)
theorem V_bt (c : Int) : V (bt c) := by
  unfold bt; split
  · exact V_two_pow _ (by omega)
  · exact V_zero
theorem V_and {a b : Nat} (h : V a) : V (a &&& b) := Nat.lt_of_le_of_lt Nat.and_le_left h
theorem V_andN {a b : Nat} (h : V a) : V (andN a b) := V_and h
theorem V_or {a b : Nat} (h : V a) (k : V b) : V (a ||| b) := (V_pow _).2 (Nat.or_lt_two_pow ((V_pow _).1 h) ((V_pow _).1 k))

theorem tb_bt (c : Int) (i : Nat) : (bt c).testBit i = (decide (c = (i : Int)) && decide (i < 64)) := by
  unfold bt; split
  · rename_i h
    rw [Nat.testBit_two_pow]
    by_cases e : c.toNat = i
    · have e1 : c = (i : Int) := by omega
      simp [e1]; omega
    · have e1 : c ≠ (i : Int) := by omega
      simp [e, e1]
  · rename_i h
    by_cases e : c = (i : Int)
    · have : ¬ i < 64 := by omega
      simp [this]
    · simp [e]
theorem tb_andN (a b : Nat) (ha : V a) (hb : V b) (i : Nat) : (andN a b).testBit i = (a.testBit i && !b.testBit i) := by
  unfold andN
  have e : 18446744073709551615 - b = 2 ^ 64 - (b + 1) := by omega
  rw [Nat.testBit_and, e, Nat.testBit_two_pow_sub_succ ((V_pow _).1 hb)]
  by_cases hi : i < 64
  · simp [hi]
  · rw [hi_bit ha (by omega)]; rfl

/-- has it c? -/
def has (x : Nat) (c : Int) : Bool := decide (0 ≤ c) && x.testBit c.toNat
theorem has_at (x k : Nat) : has x (k : Int) = x.testBit k := by simp [has]
theorem has_neg (x : Nat) (c : Int) (h : c < 0) : has x c = false := by
  have : ¬ 0 ≤ c := by omega
  simp [has, this]
theorem has_hi (x : Nat) (hx : V x) (c : Int) (h : 64 ≤ c) : has x c = false := by
  unfold has; rw [hi_bit hx (by omega)]; simp
theorem has_lt {x : Nat} (hx : V x) {c : Int} (h : has x c = true) : 0 ≤ c ∧ c < 64 := by
  by_cases h0 : c < 0
  · rw [has_neg _ _ h0] at h; cases h
  · by_cases h1 : 64 ≤ c
    · rw [has_hi _ hx _ h1] at h; cases h
    · omega
/-- 'm & bit(c) != 0'. -/
theorem and_bt (x : Nat) (hx : V x) (c : Int) : ((x &&& bt c) != 0) = has x c := by
  cases h : has x c with
  | true =>
    obtain ⟨h0, h1⟩ := has_lt hx h
    obtain ⟨k, rfl⟩ : ∃ k : Nat, c = (k : Int) := ⟨c.toNat, by omega⟩
    rw [has_at] at h
    have : (x &&& bt (k : Int)).testBit k = true := by rw [Nat.testBit_and, h, tb_bt]; simp; omega
    simp only [bne_iff_ne, ne_eq]
    intro e
    rw [e] at this
    simp at this
  | false =>
    have : x &&& bt c = 0 := by
      refine ext (V_and hx) V_zero fun i hi => ?_
      rw [Nat.testBit_and, tb_bt]
      by_cases e : c = (i : Int)
      · subst e; rw [has_at] at h; simp [h]
      · simp [e]
    simp [this]

def wit (x : Nat) (c : Int) : Nat := x ||| bt c
def wout (x : Nat) (c : Int) : Nat := andN x (bt c)
theorem V_wit {x : Nat} (h : V x) (c : Int) : V (wit x c) := V_or h (V_bt c)
theorem V_wout {x : Nat} (h : V x) (c : Int) : V (wout x c) := V_andN h
theorem tb_wit (x : Nat) (c : Int) (i : Nat) : (wit x c).testBit i = (x.testBit i || (decide (c = (i : Int)) && decide (i < 64))) := by unfold wit; rw [Nat.testBit_or, tb_bt]
theorem tb_wout (x : Nat) (hx : V x) (c : Int) (i : Nat) : (wout x c).testBit i = (x.testBit i && !decide (c = (i : Int))) := by
  unfold wout; rw [tb_andN _ _ hx (V_bt c), tb_bt]
  by_cases hi : i < 64
  · simp [hi]
  · rw [hi_bit hx (by omega)]; rfl
theorem or_add {a b : Nat} (ha : V a) (hb : V b) (h : a &&& b = 0) (hs : V (a + b)) : a ||| b = a + b := by
  have e1 : (BitVec.ofNat 64 a).toNat = a := by rw [BitVec.toNat_ofNat]; exact Nat.mod_eq_of_lt ((V_pow _).1 ha)
  have e2 : (BitVec.ofNat 64 b).toNat = b := by rw [BitVec.toNat_ofNat]; exact Nat.mod_eq_of_lt ((V_pow _).1 hb)
  have hz : BitVec.ofNat 64 a &&& BitVec.ofNat 64 b = 0#64 := by
    apply BitVec.eq_of_toNat_eq
    rw [BitVec.toNat_and, e1, e2, h]; rfl
  have := congrArg BitVec.toNat (BitVec.add_eq_or_of_and_eq_zero _ _ hz)
  rw [BitVec.toNat_or, BitVec.toNat_add, e1, e2] at this
  rw [← this]
  exact Nat.mod_eq_of_lt ((V_pow _).1 hs)
theorem or_le {a b : Nat} (ha : V a) (hb : V b) (h : a &&& b = 0) : a ||| b = a + b := by
  refine or_add ha hb h ?_
  -- the sum of two with nothing in common is no more than all
  have hb' : b ≤ 18446744073709551615 - a := by
    have e : b = (18446744073709551615 - a) &&& b := by
      refine ext hb (Nat.lt_of_le_of_lt Nat.and_le_right hb) fun i hi => ?_
      have e : 18446744073709551615 - a = 2 ^ 64 - (a + 1) := by omega
      have hz : (a &&& b).testBit i = false := by rw [h]; simp
      rw [Nat.testBit_and] at hz
      rw [Nat.testBit_and, e, Nat.testBit_two_pow_sub_succ ((V_pow _).1 ha)]
      cases ha' : a.testBit i <;> cases hb' : b.testBit i <;> simp_all
    rw [e]; exact Nat.and_le_left
  unfold V at *; omega
/-- put in by adding. -/
theorem wit_add (x : Nat) (hx : V x) (c : Int) (h : has x c = false) : wit x c = x + bt c := by
  refine or_le hx (V_bt c) ?_
  have := and_bt x hx c
  rw [h] at this
  simpa using this
theorem wit_same (x : Nat) (c : Int) (h : has x c = true) : wit x c = x := by
  refine Nat.eq_of_testBit_eq fun i => ?_
  rw [tb_wit]
  by_cases e : c = (i : Int)
  · subst e; rw [has_at] at h; simp [h]
  · simp [e]
theorem wout_same (x : Nat) (hx : V x) (c : Int) (h : has x c = false) : wout x c = x := by
  refine Nat.eq_of_testBit_eq fun i => ?_
  rw [tb_wout x hx]
  by_cases e : c = (i : Int)
  · subst e; rw [has_at] at h; simp [h]
  · simp [e]
theorem has_wit (x : Nat) (c d : Int) : has (wit x c) d = (has x d || (decide (c = d) && decide (0 ≤ c ∧ c < 64))) := by
  by_cases h0 : d < 0
  · rw [has_neg _ _ h0, has_neg _ _ h0]
    by_cases e : c = d
    · have : ¬ (0 ≤ c ∧ c < 64) := by omega
      simp [this]
    · simp [e]
  · obtain ⟨k, rfl⟩ : ∃ k : Nat, d = (k : Int) := ⟨d.toNat, by omega⟩
    rw [has_at, has_at, tb_wit]
    by_cases e : c = (k : Int)
    · subst e
      by_cases hk : k < 64
      · have : (0 : Int) ≤ k ∧ (k : Int) < 64 := by omega
        rw [decide_eq_true hk, decide_eq_true this]
      · have : ¬ ((0 : Int) ≤ k ∧ (k : Int) < 64) := by omega
        rw [decide_eq_false hk, decide_eq_false this]
    · simp [e]
theorem has_wout (x : Nat) (hx : V x) (c d : Int) : has (wout x c) d = (has x d && !decide (c = d)) := by
  by_cases h0 : d < 0
  · rw [has_neg _ _ h0, has_neg _ _ h0]; simp
  · obtain ⟨k, rfl⟩ : ∃ k : Nat, d = (k : Int) := ⟨d.toNat, by omega⟩
    rw [has_at, has_at, tb_wout x hx]
theorem wit_wout (x : Nat) (hx : V x) (c : Int) (h : has x c = true) : wit (wout x c) c = x := by
  obtain ⟨h0, h1⟩ := has_lt hx h
  refine Nat.eq_of_testBit_eq fun i => ?_
  rw [tb_wit, tb_wout x hx]
  by_cases e : c = (i : Int)
  · subst e; rw [has_at] at h; simp [h]; omega
  · simp [e]
/-- taken out by subtracting. -/
theorem wout_sub (x : Nat) (hx : V x) (c : Int) (h : has x c = true) : wout x c = x - bt c ∧ bt c ≤ x := by
  have h1 := wit_add (wout x c) (V_wout hx c) c (by rw [has_wout x hx]; simp)
  rw [wit_wout x hx c h] at h1
  omega

/-! ### the CPUs, rising -/
def cpus (x : Nat) : List Nat := (List.range 64).filter (fun i => x.testBit i)
theorem mem_cpus {x : Nat} (hx : V x) (i : Nat) : i ∈ cpus x ↔ x.testBit i = true := by
  unfold cpus
  rw [List.mem_filter, List.mem_range]
  constructor
  · exact fun h => h.2
  · intro h
    refine ⟨?_, h⟩
    by_cases hi : i < 64
    · exact hi
    · rw [hi_bit hx (by omega)] at h; cases h
theorem cpus_lt {x i : Nat} (h : i ∈ cpus x) : i < 64 := by
  unfold cpus at h
  rw [List.mem_filter, List.mem_range] at h
  exact h.1
theorem cpus_zero : cpus 0 = [] := by simp [cpus]
theorem cpus_le (x : Nat) : (cpus x).length ≤ 64 := by
  have := List.length_filter_le (fun i => x.testBit i) (List.range 64)
  simpa [cpus] using this
theorem cpus_rise (x : Nat) : (cpus x).Pairwise (· < ·) := List.Pairwise.filter _ List.pairwise_lt_range
theorem cpus_inj {x y : Nat} (hx : V x) (hy : V y) (h : cpus x = cpus y) : x = y := by
  refine ext hx hy fun i _ => ?_
  have e := mem_cpus hx i
  rw [h, mem_cpus hy i] at e
  cases h1 : x.testBit i <;> cases h2 : y.testBit i <;> simp_all
theorem cpus_nil {x : Nat} (hx : V x) (h : cpus x = []) : x = 0 := cpus_inj hx V_zero (by rw [h, cpus_zero])
theorem cpus_sub (x y : Nat) (p : Nat → Bool) (h : ∀ i, i < 64 → y.testBit i = (x.testBit i && p i)) : cpus y = (cpus x).filter p := by
  unfold cpus
  rw [List.filter_filter]
  refine List.filter_congr fun i hi => ?_
  rw [h i (List.mem_range.1 hi), Bool.and_comm]

/-- the least one. -/
theorem ctz_bit (x : Nat) (hx : V x) (h0 : x ≠ 0) : x.testBit (Lib.ctz 64 x) = true ∧ ∀ i, i < Lib.ctz 64 x → x.testBit i = false := by
  obtain ⟨m, hm, -⟩ := Lib.ctzFrom_spec 64 x (by omega) ((V_pow _).1 hx)
  have e : Lib.ctz 64 x = Lib.ctzFrom 64 x := by simp [Lib.ctz, h0]
  rw [e]
  generalize Lib.ctzFrom 64 x = k at *
  subst hm
  rw [Nat.mul_comm]
  constructor
  · rw [Nat.testBit_mul_two_pow]; simp
  · intro i hi
    rw [Nat.testBit_mul_two_pow]; simp; omega
theorem ctz_lt (x : Nat) (hx : V x) (h0 : x ≠ 0) : Lib.ctz 64 x < 64 := (Lib.lowest_bit 64 x h0 ((V_pow _).1 hx)).2

/-- 'x & (x - 1)': the least one is taken off. -/
theorem tb_pred (x : Nat) (hx : V x) (h0 : x ≠ 0) (i : Nat) : (x &&& (x - 1)).testBit i = (x.testBit i && decide (i ≠ Lib.ctz 64 x)) := by
  obtain ⟨m, hm, -⟩ := Lib.ctzFrom_spec 64 x (by omega) ((V_pow _).1 hx)
  have e : Lib.ctz 64 x = Lib.ctzFrom 64 x := by simp [Lib.ctz, h0]
  rw [e]
  generalize Lib.ctzFrom 64 x = k at *
  have hp : 0 < 2 ^ k := Nat.two_pow_pos k
  have e1 : x - 1 = 2 ^ k * (2 * m) + (2 ^ k - 1) := by
    rw [hm, Nat.mul_add]; omega
  rw [Nat.testBit_and, e1, Nat.testBit_two_pow_mul_add _ (by omega)]
  have e2 : x.testBit i = (2 ^ k * (2 * m + 1) + 0).testBit i := by rw [Nat.add_zero, ← hm]
  rw [e2, Nat.testBit_two_pow_mul_add _ hp]
  by_cases hi : i < k
  · simp [hi]
  · simp only [hi, if_false]
    by_cases he : i = k
    · subst he; simp
    · obtain ⟨j, rfl⟩ : ∃ j, i = k + (j + 1) := ⟨i - k - 1, by omega⟩
      have e3 : k + (j + 1) - k = j + 1 := by omega
      rw [e3, Nat.testBit_succ, Nat.testBit_succ]
      have d1 : (2 * m + 1) / 2 = m := by omega
      have d2 : 2 * m / 2 = m := by omega
      rw [d1, d2]; simp

theorem sorted_head {l : List Nat} {a : Nat} (hs : l.Pairwise (· < ·)) (ha : a ∈ l) (h : ∀ b ∈ l, a ≤ b) : l = a :: l.filter (fun i => decide (i ≠ a)) := by
  cases l with
  | nil => cases ha
  | cons b t =>
    rw [List.pairwise_cons] at hs
    have hb : b = a := by
      rcases List.mem_cons.1 ha with e | e
      · exact e.symm
      · have h1 := hs.1 a e
        have h2 := h b (by simp)
        omega
    subst hb
    have : (b :: t).filter (fun i => decide (i ≠ b)) = t := by
      rw [List.filter_cons_of_neg (by simp)]
      rw [List.filter_eq_self]
      intro i hi
      have := hs.1 i hi
      simp; omega
    rw [this]
theorem cpus_step (x : Nat) (hx : V x) (h0 : x ≠ 0) : cpus x = Lib.ctz 64 x :: cpus (x &&& (x - 1)) := by
  obtain ⟨h1, h2⟩ := ctz_bit x hx h0
  rw [cpus_sub x (x &&& (x - 1)) (fun i => decide (i ≠ Lib.ctz 64 x)) (fun i _ => tb_pred x hx h0 i)]
  refine sorted_head (cpus_rise x) ((mem_cpus hx _).2 h1) fun b hb => ?_
  have hb' := (mem_cpus hx b).1 hb
  by_cases hlt : b < Lib.ctz 64 x
  · rw [h2 b hlt] at hb'; cases hb'
  · omega

/-! ### all below n -/
def allM (n : Int) : Nat := if n < 0 then 0 else 2 ^ (min n.toNat 64) - 1
theorem tb_all (n : Int) (i : Nat) : (allM n).testBit i = (decide ((i : Int) < n) && decide (i < 64)) := by
  unfold allM; split
  · have : ¬ (i : Int) < n := by omega
    simp [this]
  · rw [Nat.testBit_two_pow_sub_one]
    by_cases h1 : (i : Int) < n
    · have : i < n.toNat := by omega
      by_cases h2 : i < 64
      · have : i < min n.toNat 64 := by omega
        simp [*]
      · have : ¬ i < min n.toNat 64 := by omega
        simp [*]
    · have : ¬ i < min n.toNat 64 := by omega
      simp [*]
theorem V_all (n : Int) : V (allM n) := by
  unfold allM; split
  · exact V_zero
  · have : 2 ^ min n.toNat 64 ≤ 2 ^ 64 := Nat.pow_le_pow_right (by omega) (by omega)
    unfold V; omega

/-! ### the least one, and the least one above c -/
def fstI : List Nat → Int
  | [] => 0
  | a :: _ => a
def anyB : List Nat → Bool
  | [] => false
  | _ :: _ => true
def above (x : Nat) (c : Int) : List Nat := (cpus x).filter (fun (i : Nat) => decide (c < (i : Int)))
theorem next_cpus (x : Nat) (hx : V x) (c : Int) : cpus (wout (andN x (allM c)) c) = above x c := by
  refine cpus_sub _ _ _ fun i hi => ?_
  rw [tb_wout _ (V_andN hx), tb_andN _ _ hx (V_all c), tb_all]
  by_cases h1 : (i : Int) < c
  · have : ¬ c < (i : Int) := by omega
    simp [*]
  · by_cases h2 : c = (i : Int)
    · have : ¬ c < (i : Int) := by omega
      simp [*]
    · have : c < (i : Int) := by omega
      simp [*]
/-- where the least one above c is, or else the least one. -/
def rndL (x : Nat) (c : Int) : List Nat := if anyB (above x c) then above x c else cpus x
theorem above_lo (x : Nat) : above x (-1) = cpus x := by
  unfold above
  rw [List.filter_eq_self]
  intro i _
  simp; omega

/-! ### the mask of a list -/
def isCpu (c : Int) : Bool := decide (0 ≤ c) && decide (c < 64)
theorem bt_zero (c : Int) : (bt c == 0) = !isCpu c := by
  unfold isCpu
  by_cases h : 0 ≤ c ∧ c < 64
  · obtain ⟨k, rfl⟩ : ∃ k : Nat, c = (k : Int) := ⟨c.toNat, by omega⟩
    rw [bt_at k (by omega)]
    rw [decide_eq_true h.1, decide_eq_true h.2]; simp
  · rw [bt_no c (by omega)]
    simp; omega
def orAll (zs : List Int) : Nat := zs.foldl (fun m c => m ||| bt c) 0
theorem orAll_snoc (zs : List Int) (c : Int) : orAll (zs ++ [c]) = orAll zs ||| bt c := by simp [orAll, List.foldl_append]
theorem tb_orFrom (zs : List Int) (m i : Nat) (hi : i < 64) : (zs.foldl (fun m c => m ||| bt c) m).testBit i = (m.testBit i || decide ((i : Int) ∈ zs)) := by
  induction zs generalizing m with
  | nil => simp
  | cons a t ih =>
    rw [List.foldl_cons, ih, Nat.testBit_or, tb_bt]
    by_cases e : a = (i : Int)
    · subst e; simp [hi]
    · have e' : ¬ (i : Int) = a := fun h => e h.symm
      simp [e, e']
theorem tb_orAll (zs : List Int) (i : Nat) (hi : i < 64) : (orAll zs).testBit i = decide ((i : Int) ∈ zs) := by unfold orAll; rw [tb_orFrom zs 0 i hi]; simp
theorem V_orFrom (zs : List Int) (m : Nat) (h : V m) : V (zs.foldl (fun m c => m ||| bt c) m) := by
  induction zs generalizing m with
  | nil => exact h
  | cons a t ih => exact ih _ (V_or h (V_bt a))
theorem V_orAll (zs : List Int) : V (orAll zs) := V_orFrom zs 0 V_zero
def goodL (zs : List Int) : Bool := zs.all isCpu
def ofM (zs : List Int) : Nat := if goodL zs then orAll zs else 0
def ofE (zs : List Int) : Int := if goodL zs then 0 else 1
def ints (l : List Nat) : List Int := l.map (fun (n : Nat) => (n : Int))
theorem good_ints (x : Nat) : goodL (ints (cpus x)) = true := by
  unfold goodL ints
  rw [List.all_eq_true]
  intro c hc
  obtain ⟨i, hi, rfl⟩ := List.mem_map.1 hc
  have := cpus_lt hi
  simp [isCpu]; omega
theorem mem_ints (l : List Nat) (i : Nat) : (i : Int) ∈ ints l ↔ i ∈ l := by
  unfold ints
  rw [List.mem_map]
  constructor
  · rintro ⟨j, hj, e⟩
    have : j = i := by omega
    exact this ▸ hj
  · exact fun h => ⟨i, h, rfl⟩
/-- Of undoes List. -/
theorem of_list (x : Nat) (hx : V x) : ofM (ints (cpus x)) = x ∧ ofE (ints (cpus x)) = 0 := by
  unfold ofM ofE
  rw [good_ints, if_pos rfl, if_pos rfl]
  refine ⟨ext (V_orAll _) hx fun i hi => ?_, rfl⟩
  rw [tb_orAll _ i hi]
  cases h : x.testBit i with
  | true => simp [mem_ints, mem_cpus hx, h]
  | false => simp [mem_ints, mem_cpus hx, h]
theorem of_twice (x : Nat) (hx : V x) : ofM (ints (cpus x) ++ ints (cpus x)) = x ∧ ofE (ints (cpus x) ++ ints (cpus x)) = 0 := by
  have hg : goodL (ints (cpus x) ++ ints (cpus x)) = true := by
    have := good_ints x
    unfold goodL at *
    rw [List.all_append, this]; rfl
  unfold ofM ofE
  rw [hg, if_pos rfl, if_pos rfl]
  refine ⟨ext (V_orAll _) hx fun i hi => ?_, rfl⟩
  rw [tb_orAll _ i hi]
  cases h : x.testBit i with
  | true => simp [mem_ints, mem_cpus hx, h]
  | false => simp [mem_ints, mem_cpus hx, h]

/-! ### how many -/
def cnt (x : Nat) : Nat := (cpus x).length
theorem count_both (l : List Nat) (p q : Nat → Bool) : (l.filter (fun i => p i && q i)).length + (l.filter (fun i => p i || q i)).length = (l.filter p).length + (l.filter q).length := by
  induction l with
  | nil => rfl
  | cons a t ih => cases hp : p a <;> cases hq : q a <;> simp [hp, hq] <;> omega
theorem cnt_of (x : Nat) (p : Nat → Bool) (h : ∀ i, i < 64 → x.testBit i = p i) : cnt x = ((List.range 64).filter p).length := by
  unfold cnt cpus
  rw [List.filter_congr fun i hi => h i (List.mem_range.1 hi)]
theorem cnt_both (a b : Nat) : cnt (a &&& b) + cnt (a ||| b) = cnt a + cnt b := by
  rw [cnt_of (a &&& b) (fun i => a.testBit i && b.testBit i) (fun i _ => Nat.testBit_and ..), cnt_of (a ||| b) (fun i => a.testBit i || b.testBit i) (fun i _ => Nat.testBit_or ..)]
  exact count_both _ _ _
theorem cnt_zero : cnt 0 = 0 := by unfold cnt; rw [cpus_zero]; rfl
theorem cnt_parts (a b : Nat) (ha : V a) (hb : V b) : cnt (a &&& b) + cnt (andN a b) = cnt a := by
  have h := cnt_both (a &&& b) (andN a b)
  have e1 : (a &&& b) &&& andN a b = 0 := ext (V_and (V_and ha)) V_zero fun i _ => by
    rw [Nat.testBit_and, Nat.testBit_and, tb_andN a b ha hb]
    cases a.testBit i <;> cases b.testBit i <;> simp
  have e2 : (a &&& b) ||| andN a b = a := ext (V_or (V_and ha) (V_andN ha)) ha fun i _ => by
    rw [Nat.testBit_or, Nat.testBit_and, tb_andN a b ha hb]
    cases a.testBit i <;> cases b.testBit i <;> simp
  rw [e1, e2, cnt_zero] at h
  omega
theorem cnt_bits : ∀ k, k < 64 → cnt (2 ^ k) = 1 := by decide +kernel
theorem cnt_alls : ∀ k, k < 65 → cnt (2 ^ k - 1) = k := by decide +kernel
theorem cnt_all (k : Nat) (h : k < 65) : cnt (allM (k : Int)) = k := by
  have e : allM (k : Int) = 2 ^ k - 1 := by
    unfold allM
    rw [if_neg (by omega)]
    have : min ((k : Int).toNat) 64 = k := by omega
    rw [this]
  rw [e]; exact cnt_alls k h
theorem cnt_wit (x : Nat) (hx : V x) (c : Int) (h : has x c = false) (hc : isCpu c = true) : cnt (wit x c) = cnt x + 1 := by
  have hz : x &&& bt c = 0 := by
    have := and_bt x hx c
    rw [h] at this
    simpa using this
  have h1 := cnt_both x (bt c)
  rw [hz, cnt_zero] at h1
  have h2 : cnt (bt c) = 1 := by
    unfold isCpu at hc
    simp at hc
    obtain ⟨k, rfl⟩ : ∃ k : Nat, c = (k : Int) := ⟨c.toNat, by omega⟩
    rw [bt_at k (by omega)]
    exact cnt_bits k (by omega)
  unfold wit
  omega
theorem cnt_puts (x : Nat) (hx : V x) (c : Int) (hc : isCpu c = true) : cnt (wit x c) = cnt (wout x c) + 1 := by
  have h1 := cnt_wit (wout x c) (V_wout hx c) c (by rw [has_wout x hx]; simp) hc
  have e : wit (wout x c) c = wit x c := Nat.eq_of_testBit_eq fun i => by
    rw [tb_wit, tb_wit, tb_wout x hx]
    by_cases e : c = (i : Int)
    · subst e
      by_cases hi : i < 64
      · simp [hi]
      · rw [hi_bit hx (by omega)]; simp [hi]
    · simp [e]
  rw [e] at h1
  exact h1

end Mk
end Go.Proofs.YtjikabalpejmlaaDoor
