/-
  Plain facts on numbers of 64 and of 128 bits (nothing of the program is imported here): what Mul, Add, Div, Scale of layer 1 reckon, step by step, and what that comes to.
  Plain facts on virtual times that go round (nothing of the program is imported here): what layer 3 reckons, as numbers.
  Plain facts on keys (nothing of the program is imported here): what layer 8 tells, as functions of lists of pairs of numbers.
  Plain facts on trees (nothing of the program is imported here): nodes, trees as lists of nodes, and what is done to them, as functions.
  Plain facts on trees: the way down to where a key is to stand; what removing and filling make of a tree.
  Plain facts on trees: what removing a node makes of a tree.
  Plain facts on trees: what is met from a node on.
  Plain facts on trees: a tree as one (what is left and right of each node), and that nodes are just that.
  Plain facts on trees: what is met is a tree as one; a tree is whole just if its nodes are one.
  Plain facts on trees: a tree is one in one way; right trees.
-/
import Derived.Laws.Bits64b
import Derived.Laws.BitsLemmas
namespace Go.Proofs.Ytgjacmkedgbneaa
namespace Wd

/-- 2^64, under a name of its own. -/
def M : Int := 18446744073709551616
/-- n is a number of 64 bits. -/
def U (n : Int) : Prop := 0 ≤ n ∧ n < M

theorem U_zero : U 0 := by unfold U M; omega
theorem U_one : U 1 := by unfold U M; omega
theorem wrapM (n : Int) : IntKind.u64.wrap n = n % M := IntKind.wrap_u64 n
theorem U_wrap (n : Int) : U (IntKind.u64.wrap n) := by rw [wrapM]; unfold U M; omega
theorem wrap_U {n : Int} (h : U n) : IntKind.u64.wrap n = n := by rw [wrapM]; unfold U M at *; omega

/-! ### the steps, as the Go text takes them -/
def addL (b c : Int) : Int := IntKind.u64.wrap (b + c)
def addH (a b c : Int) : Int := if IntKind.u64.wrap (b + c) < b then IntKind.u64.wrap (a + 1) else a
def dblH (h l : Int) : Int := bits .or .u64 (IntKind.u64.wrap (h * 2)) (l / 9223372036854775808)
def dblL (l : Int) : Int := IntKind.u64.wrap (l * 2)

theorem U_addL (b c : Int) : U (addL b c) := U_wrap _
theorem U_addH (a b c : Int) (h : U a) : U (addH a b c) := by unfold addH; split; exact U_wrap _; exact h
theorem U_dblL (l : Int) : U (dblL l) := U_wrap _

/-- 'Add', as a number. -/
theorem add_spec (a b c : Int) (ha : U a) (hb : U b) (hc : U c) : addH a b c * M + addL b c = (a * M + b + c) % (M * M) := by
  unfold addH addL; simp only [wrapM]
  have e : (a * M + b + c) % (M * M) = (a * M + b + c) % 340282366920938463463374607431768211456 := by unfold M; rfl
  rw [e]
  unfold U M at *
  split <;> omega

/-- .. with no wrap. -/
theorem add_small (a b c : Int) (ha : U a) (hb : U b) (hc : U c) (X : Int) (hX : X = a * M + b) (hs : X + c < M * M) : addH a b c = (X + c) / M ∧ addL b c = (X + c) % M := by
  have e : M * M = 340282366920938463463374607431768211456 := by unfold M; rfl
  rw [e] at hs
  unfold addH addL; simp only [wrapM]
  unfold U M at *
  subst hX
  split <;> omega

theorem or_even (x y : Int) (hx : U x) (he : x % 2 = 0) (hy : 0 ≤ y ∧ y < 2) : bits .or .u64 x y = x + y := by
  refine bits_join .u64 64 (by decide) (fun n h0 h1 => ?_) 1 x y hx.1 (by simpa using he) ?_ hy.1 ?_ ?_
  · rw [IntKind.wrap_u64]; omega
  · have := hx.2; unfold M at this; omega
  · simpa using hy.2
  · omega
theorem and_one (x : Int) (hx : U x) : bits .and .u64 x 1 = x % 2 := by
  have := bits_mask .u64 64 (by decide) (fun n h0 h1 => by rw [IntKind.wrap_u64]; omega) 1 (by omega) x hx.1 (by have := hx.2; unfold M at this; omega)
  simpa using this

/-- 'double', as a number, with no wrap. -/
theorem dbl_small (h l : Int) (hh : U h) (hl : U l) (X : Int) (hX : X = h * M + l) (hs : 2 * X < M * M) : dblH h l = 2 * X / M ∧ dblL l = 2 * X % M := by
  have e : M * M = 340282366920938463463374607431768211456 := by unfold M; rfl
  rw [e] at hs
  have hb : 0 ≤ l / 9223372036854775808 ∧ l / 9223372036854775808 < 2 := by unfold U M at *; omega
  have hw : IntKind.u64.wrap (h * 2) = h * 2 := by rw [wrapM]; unfold U M at *; omega
  unfold dblH dblL
  rw [or_even _ _ (U_wrap _) (by rw [hw]; omega) hb, hw, wrapM]
  unfold U M at *
  subst hX
  omega

/-! ### bits, the highest one first -/
def b2i (b : Bool) : Int := if b then 1 else 0
theorem b2i_bound (b : Bool) : 0 ≤ b2i b ∧ b2i b ≤ 1 := by cases b <;> simp [b2i]
/-- bit i of n, from above. -/
def bitAt (n : Int) (i : Nat) : Bool := n / 2 ^ (63 - i) % 2 == 1
def bitsUpto (n : Int) (k : Nat) : List Bool := (List.range k).map (bitAt n)
theorem bitsUpto_zero (n : Int) : bitsUpto n 0 = [] := rfl
theorem bitsUpto_succ (n : Int) (k : Nat) : bitsUpto n (k + 1) = bitsUpto n k ++ [bitAt n k] := by simp [bitsUpto, List.range_succ]
theorem bitsUpto_length (n : Int) (k : Nat) : (bitsUpto n k).length = k := by simp [bitsUpto]
theorem b2i_bitAt (n : Int) (i : Nat) : b2i (bitAt n i) = n / 2 ^ (63 - i) % 2 := by
  unfold b2i bitAt
  by_cases h : n / 2 ^ (63 - i) % 2 = 1
  · simp [h]
  · have : n / 2 ^ (63 - i) % 2 = 0 := by omega
    simp [this]

/-- the number of a row of bits. -/
def val (l : List Bool) : Int := l.foldl (fun v b => 2 * v + b2i b) 0
theorem val_nil : val [] = 0 := rfl
theorem val_snoc (l : List Bool) (b : Bool) : val (l ++ [b]) = 2 * val l + b2i b := by simp [val]
theorem val_from (l : List Bool) : ∀ v : Int, 0 ≤ v → 0 ≤ l.foldl (fun v b => 2 * v + b2i b) v ∧ l.foldl (fun v b => 2 * v + b2i b) v + 1 ≤ (v + 1) * 2 ^ l.length := by
  induction l with
  | nil => intro v hv; simp; omega
  | cons b l ih =>
    intro v hv
    have hb := b2i_bound b
    have h := ih (2 * v + b2i b) (by omega)
    have e : (v + 1) * 2 ^ (b :: l).length = (2 * v + 2) * 2 ^ l.length := by
      rw [List.length_cons, Int.pow_succ, Int.mul_comm (2 ^ l.length) 2, ← Int.mul_assoc]; congr 1; omega
    rw [e, List.foldl_cons]
    refine ⟨h.1, Int.le_trans h.2 (Int.mul_le_mul_of_nonneg_right (by omega) (Int.le_of_lt (Int.pow_pos (by omega))))⟩
theorem val_bound (l : List Bool) : 0 ≤ val l ∧ val l < 2 ^ l.length := by
  have := val_from l 0 (by omega)
  unfold val; omega

/-- what has come of n behind k bits. -/
theorem val_upto (n : Int) (h : U n) (k : Nat) (hk : k ≤ 64) : val (bitsUpto n k) = n / 2 ^ (64 - k) := by
  induction k with
  | zero => rw [bitsUpto_zero, val_nil]; unfold U M at h; simp; omega
  | succ k ih =>
    rw [bitsUpto_succ, val_snoc, ih (by omega), b2i_bitAt]
    have e : (2 : Int) ^ (64 - k) = 2 ^ (63 - k) * 2 := by rw [← Int.pow_succ]; congr 1; omega
    have e2 : 64 - (k + 1) = 63 - k := by omega
    rw [e, e2, ← Int.ediv_ediv_of_nonneg (Int.le_of_lt (Int.pow_pos (by omega)))]
    omega
theorem val_all (n : Int) (h : U n) : val (bitsUpto n 64) = n := by rw [val_upto n h 64 (by omega)]; simp

theorem pow_le {i j : Nat} (h : i ≤ j) : (2 : Int) ^ i ≤ 2 ^ j := by
  have := Nat.pow_le_pow_right (n := 2) (by omega) h
  exact_mod_cast this

/-! ### 'Mul' -/
def mulH (a b : Int) : Int := a * b / M
def mulL (a b : Int) : Int := a * b % M
/-- one round of Mul. -/
def mulStep (a : Int) (s : Int × Int) (b : Bool) : Int × Int :=
  if b then (addH (dblH s.1 s.2) (dblL s.2) a, addL (dblL s.2) a) else (dblH s.1 s.2, dblL s.2)
def mulSt (a : Int) (l : List Bool) : Int × Int := l.foldl (mulStep a) (0, 0)
theorem mulSt_nil (a : Int) : mulSt a [] = (0, 0) := rfl
theorem mulSt_snoc (a : Int) (l : List Bool) (b : Bool) : mulSt a (l ++ [b]) = mulStep a (mulSt a l) b := by simp [mulSt]

theorem prod_bound (a v : Int) (ha : U a) (hv : U v) : 0 ≤ a * v ∧ a * v + M + M ≤ M * M + 1 := by
  have h1 := Int.mul_nonneg ha.1 hv.1
  have h2 : a * v ≤ (M - 1) * (M - 1) := Int.mul_le_mul (by have := ha.2; omega) (by have := hv.2; omega) hv.1 (by have := ha.1; have := ha.2; omega)
  have e : (M - 1) * (M - 1) = M * M - M - M + 1 := by unfold M; rfl
  omega
theorem U_mulL (a b : Int) : U (mulL a b) := by unfold mulL U M; omega
theorem U_mulH (a b : Int) (ha : U a) (hb : U b) : U (mulH a b) := by
  have h := prod_bound a b ha hb
  have e : M * M = 340282366920938463463374607431768211456 := by unfold M; rfl
  rw [e] at h
  unfold mulH
  generalize a * b = X at *
  unfold U M at *
  omega

theorem mulSt_eq (a : Int) (ha : U a) : ∀ (k : Nat) (l : List Bool), l.length = k → k ≤ 64 → mulSt a l = (a * val l / M, a * val l % M) := by
  intro k
  induction k with
  | zero => intro l hl _; obtain rfl := List.length_eq_zero_iff.1 hl; simp [mulSt, val]
  | succ k ih =>
    intro l hl hk
    obtain ⟨l', b, rfl⟩ : ∃ l' b, l = l' ++ [b] := ⟨l.dropLast, l.getLast (by intro e; simp [e] at hl), (List.dropLast_concat_getLast _).symm⟩
    have hl' : l'.length = k := by simpa using hl
    have hv := val_bound l'
    have hvs := val_bound (l' ++ [b])
    have hp : (2 : Int) ^ (l' ++ [b]).length ≤ 2 ^ 64 := pow_le (by simp; omega)
    have hU : U (val (l' ++ [b])) := ⟨hvs.1, by have : (2 : Int) ^ 64 = M := rfl; omega⟩
    have hU' : U (val l') := by rw [val_snoc] at hU; have := b2i_bound b; unfold U at *; omega
    have pb := prod_bound a _ ha hU
    have pb' := prod_bound a _ ha hU'
    rw [mulSt_snoc, ih l' hl' (by omega)]
    rw [val_snoc] at pb ⊢
    have hx : a * (2 * val l' + b2i b) = 2 * (a * val l') + a * b2i b := by rw [Int.mul_add, ← Int.mul_assoc, Int.mul_comm a 2, Int.mul_assoc]
    rw [hx] at pb ⊢
    have e : M * M = 340282366920938463463374607431768211456 := by unfold M; rfl
    have hXU : U (a * val l' / M) ∧ U (a * val l' % M) := ⟨U_mulH a (val l') ha hU', U_mulL a (val l')⟩
    have hXe : a * val l' = a * val l' / M * M + a * val l' % M := by rw [Int.mul_comm _ M]; exact (Int.mul_ediv_add_emod _ _).symm
    generalize a * val l' = X at *
    have habound : 0 ≤ a * b2i b := Int.mul_nonneg ha.1 (b2i_bound b).1
    have hMpos : 0 < M := by unfold M; omega
    obtain ⟨d1, d2⟩ := dbl_small (X / M) (X % M) hXU.1 hXU.2 X hXe (by omega)
    unfold mulStep
    rw [d1, d2]
    cases b with
    | false => simp [b2i]
    | true =>
      have hb1 : a * b2i true = a := by simp [b2i]
      rw [hb1] at pb ⊢
      have hDU : U (2 * X / M) ∧ U (2 * X % M) := by
        have := ha.1
        constructor
        · unfold U; exact ⟨Int.ediv_nonneg (by omega) (by omega), Int.ediv_lt_of_lt_mul hMpos (by omega)⟩
        · exact ⟨Int.emod_nonneg _ (by omega), Int.emod_lt_of_pos _ hMpos⟩
      obtain ⟨s1, s2⟩ := add_small (2 * X / M) (2 * X % M) a hDU.1 hDU.2 ha (2 * X) (by rw [Int.mul_comm _ M]; exact (Int.mul_ediv_add_emod _ _).symm) (by omega)
      simp [s1, s2]
theorem mulSt_all (a b : Int) (ha : U a) (hb : U b) : mulSt a (bitsUpto b 64) = (mulH a b, mulL a b) := by
  rw [mulSt_eq a ha 64 _ (bitsUpto_length b 64) (by omega), val_all b hb]; rfl

/-! ### 'Div' -/
def divQ (h l by' : Int) : Int := (h * M + l) / by'
def divR (h l by' : Int) : Int := (h * M + l) % by'
/-- the remainder's next value, ahead of the test. -/
def divR1 (r : Int) (b : Bool) : Int := bits .or .u64 (IntKind.u64.wrap (r * 2)) (b2i b)
def divQ1 (q : Int) : Int := IntKind.u64.wrap (q * 2)
def divQ2 (q : Int) : Int := bits .or .u64 (IntKind.u64.wrap (q * 2)) 1
def divR2 (r by' : Int) (b : Bool) : Int := IntKind.u64.wrap (divR1 r b - by')
/-- one round of Div: what is left over, and how often. -/
def divStep (by' : Int) (s : Int × Int) (b : Bool) : Int × Int :=
  if s.1 / 9223372036854775808 = 1 ∨ by' ≤ divR1 s.1 b then (divR2 s.1 by' b, divQ2 s.2) else (divR1 s.1 b, divQ1 s.2)
def divSt (h by' : Int) (l : List Bool) : Int × Int := l.foldl (divStep by') (h, 0)
theorem divSt_nil (h by' : Int) : divSt h by' [] = (h, 0) := rfl
theorem divSt_snoc (h by' : Int) (l : List Bool) (b : Bool) : divSt h by' (l ++ [b]) = divStep by' (divSt h by' l) b := by simp [divSt]

theorem divR1_eq (r : Int) (b : Bool) : divR1 r b = r * 2 % M + b2i b := by
  have hb := b2i_bound b
  unfold divR1
  rw [or_even _ _ (U_wrap _) (by rw [wrapM]; unfold M; omega) (by omega), wrapM]
theorem divQ2_eq (q : Int) : divQ2 q = q * 2 % M + 1 := by
  unfold divQ2
  rw [or_even _ _ (U_wrap _) (by rw [wrapM]; unfold M; omega) (by omega), wrapM]
theorem U_divR1 (r : Int) (b : Bool) : U (divR1 r b) := by
  rw [divR1_eq]; have := b2i_bound b; unfold U M; omega
theorem U_divQ2 (q : Int) : U (divQ2 q) := by
  rw [divQ2_eq]; unfold U M; omega

theorem div_unique {n d q r : Int} (h : n = d * q + r) (h0 : 0 ≤ r) (h1 : r < d) : n / d = q ∧ n % d = r := by
  have hq : n / d = q := by
    rw [h, Int.add_comm, Int.add_mul_ediv_left _ _ (by omega), Int.ediv_eq_zero_of_lt h0 h1]; omega
  refine ⟨hq, ?_⟩
  have := Int.mul_ediv_add_emod n d
  rw [hq] at this
  omega

theorem divStep_eq (by' : Int) (hby : U by') (N : Int) (b : Bool) (hpos : 0 < by') (hq : 0 ≤ N / by') (hq2 : 2 * (N / by') + 1 < M) :
    divStep by' (N % by', N / by') b = ((2 * N + b2i b) % by', (2 * N + b2i b) / by') := by
  have hb := b2i_bound b
  have hr0 := Int.emod_nonneg N (b := by') (by omega)
  have hr1 := Int.emod_lt_of_pos N hpos
  have hN := Int.mul_ediv_add_emod N by'
  generalize N / by' = q at *
  generalize N % by' = r at *
  have hNe : 2 * N + b2i b = by' * (2 * q) + (2 * r + b2i b) := by
    rw [← hN, Int.mul_add, Int.mul_left_comm]; omega
  have hNe1 : 2 * N + b2i b = by' * (2 * q + 1) + (2 * r + b2i b - by') := by
    rw [hNe, Int.mul_add by' (2 * q) 1]; omega
  unfold divStep
  dsimp only
  by_cases hge : by' ≤ 2 * r + b2i b
  · obtain ⟨e1, e2⟩ := div_unique hNe1 (by omega) (by omega)
    rw [e1, e2, if_pos, divQ2_eq]
    · refine Prod.ext ?_ ?_
      · show divR2 r by' b = _
        unfold divR2; rw [wrapM, divR1_eq]; unfold U M at *; omega
      · show q * 2 % M + 1 = _
        unfold M at *; omega
    · rw [divR1_eq]; unfold U M at *; omega
  · obtain ⟨e1, e2⟩ := div_unique hNe (by omega) (by omega)
    rw [e1, e2, if_neg]
    · refine Prod.ext ?_ ?_
      · show divR1 r b = _
        rw [divR1_eq]; unfold U M at *; omega
      · show divQ1 q = _
        unfold divQ1; rw [wrapM]; unfold M at *; omega
    · rw [divR1_eq]; unfold U M at *; omega

theorem divSt_eq (h by' : Int) (hh : U h) (hby : U by') (hlt : h < by') : ∀ (k : Nat) (l : List Bool), l.length = k → k ≤ 64 →
    divSt h by' l = ((h * 2 ^ k + val l) % by', (h * 2 ^ k + val l) / by') := by
  intro k
  have hpos : 0 < by' := by have := hh.1; omega
  induction k with
  | zero =>
    intro l hl _
    obtain rfl := List.length_eq_zero_iff.1 hl
    have := hh.1
    simp [divSt, val, Int.emod_eq_of_lt hh.1 hlt, Int.ediv_eq_zero_of_lt hh.1 hlt]
  | succ k ih =>
    intro l hl hk
    obtain ⟨l', b, rfl⟩ : ∃ l' b, l = l' ++ [b] := ⟨l.dropLast, l.getLast (by intro e; simp [e] at hl), (List.dropLast_concat_getLast _).symm⟩
    have hl' : l'.length = k := by simpa using hl
    have hv := val_bound l'
    rw [hl'] at hv
    rw [divSt_snoc, ih l' hl' (by omega), val_snoc]
    have hp : (0 : Int) < 2 ^ k := Int.pow_pos (by omega)
    have hp2 : (2 : Int) * 2 ^ k ≤ M := by
      have : (2 : Int) ^ (k + 1) ≤ 2 ^ 64 := pow_le (by omega)
      rw [Int.pow_succ] at this
      have e : (2 : Int) ^ 64 = M := rfl
      omega
    have hx : h * 2 ^ (k + 1) + (2 * val l' + b2i b) = 2 * (h * 2 ^ k + val l') + b2i b := by
      rw [Int.pow_succ, ← Int.mul_assoc]; omega
    have hn0 : 0 ≤ h * 2 ^ k := Int.mul_nonneg hh.1 (Int.le_of_lt hp)
    have hlt2 : h * 2 ^ k + val l' < 2 ^ k * by' := by
      have h1 : (h + 1) * 2 ^ k ≤ by' * 2 ^ k := Int.mul_le_mul_of_nonneg_right (by omega) (Int.le_of_lt hp)
      rw [Int.add_mul, Int.one_mul, Int.mul_comm by'] at h1
      omega
    have hq := Int.ediv_lt_of_lt_mul hpos hlt2
    rw [hx, divStep_eq by' hby _ b hpos (Int.ediv_nonneg (by omega) (by omega)) (by omega)]
theorem divSt_all (h l by' : Int) (hh : U h) (hl : U l) (hby : U by') (hlt : h < by') : divSt h by' (bitsUpto l 64) = (divR h l by', divQ h l by') := by
  rw [divSt_eq h by' hh hby hlt 64 _ (bitsUpto_length l 64) (by omega), val_all l hl]; rfl

/-- what Div tells: how often, what is left over, whether. -/
def divOk (h by' : Int) : Bool := !(by' == 0) && decide (h < by')
def divQq (h l by' : Int) : Int := if divOk h by' then divQ h l by' else 0
def divRr (h l by' : Int) : Int := if divOk h by' then divR h l by' else 0
theorem U_divQq (h l by' : Int) (hh : U h) (hl : U l) : U (divQq h l by') := by
  unfold divQq
  by_cases hk : divOk h by' = true
  · rw [if_pos hk]
    simp [divOk] at hk
    have := hh.1
    unfold divQ
    refine ⟨Int.ediv_nonneg ?_ (by omega), Int.ediv_lt_of_lt_mul (by omega) ?_⟩
    · have := Int.mul_nonneg hh.1 (show (0 : Int) ≤ M by unfold M; omega)
      have := hl.1
      omega
    · have h1 : (h + 1) * M ≤ by' * M := Int.mul_le_mul_of_nonneg_right (by omega) (by unfold M; omega)
      rw [Int.add_mul, Int.one_mul, Int.mul_comm by'] at h1
      have := hl.2
      omega
  · rw [if_neg hk]; exact U_zero
theorem U_divRr (h l by' : Int) (hby : U by') : U (divRr h l by') := by
  unfold divRr
  by_cases hk : divOk h by' = true
  · rw [if_pos hk]
    simp [divOk] at hk
    unfold divR
    have := Int.emod_nonneg (h * M + l) (b := by') (by omega)
    have := Int.emod_lt_of_pos (h * M + l) (b := by') (by have := hby.1; omega)
    unfold U at *
    omega
  · rw [if_neg hk]; exact U_zero

/-! ### 'Scale' -/
def scl (a b by' : Int) : Int := if divOk (mulH a b) by' then divQ (mulH a b) (mulL a b) by' else 18446744073709551615
theorem mul_parts (a b : Int) : mulH a b * M + mulL a b = a * b := by
  unfold mulH mulL; rw [Int.mul_comm _ M]; exact Int.mul_ediv_add_emod _ _

end Wd
end Go.Proofs.Ytgjacmkedgbneaa

namespace Go.Proofs.Ytgjacmkedgbneaa
namespace Tn
open Wd

/-- n is a number of 64 bits with a sign. -/
def I (n : Int) : Prop := -9223372036854775808 ≤ n ∧ n < 9223372036854775808
/-- MaxLag. -/
def mx : Int := 1125899906842624

def bef (a b : Int) : Bool := decide (1 ≤ (b - a) % M ∧ (b - a) % M ≤ 9223372036854775807)
def lat (a b : Int) : Int := if bef a b = true then b else a
def ear (a b : Int) : Int := if bef b a = true then b else a
def lagN (v m : Int) : Int := (v - m + 9223372036854775808) % M - 9223372036854775808
def atN (m l : Int) : Int := (m + l) % M
def clampN (n l m : Int) : Int := if n < l then l else if m < n then m else n
def stepN (v m d : Int) : Int := if d < 1 ∨ mx ≤ lagN v m then v else atN m (min mx (lagN v m + d))

theorem wrapI (n : Int) : IntKind.i64.wrap n = (n + 9223372036854775808) % M - 9223372036854775808 := IntKind.wrap_i64 n
theorem I_wrap (n : Int) : I (IntKind.i64.wrap n) := by rw [wrapI]; unfold I M; omega
theorem wrap_I {n : Int} (h : I n) : IntKind.i64.wrap n = n := by rw [wrapI]; unfold I M at *; omega
theorem I_lag (v m : Int) : I (lagN v m) := by unfold lagN I M; omega
theorem U_at (m l : Int) : U (atN m l) := by unfold atN U M; omega
theorem I_clamp {n l m : Int} (hn : I n) (hl : I l) (hm : I m) : I (clampN n l m) := by unfold clampN; split; exact hl; split; exact hm; exact hn
theorem U_step (v m d : Int) (hv : U v) : U (stepN v m d) := by unfold stepN; split; exact hv; exact U_at _ _
theorem U_lat {a b : Int} (ha : U a) (hb : U b) : U (lat a b) := by unfold lat; split; exact hb; exact ha
theorem U_ear {a b : Int} (ha : U a) (hb : U b) : U (ear a b) := by unfold ear; split; exact hb; exact ha

theorem lag_wrap (v m : Int) : IntKind.i64.wrap (IntKind.u64.wrap (v - m)) = lagN v m := by rw [wrapI, wrapM]; unfold lagN M; omega
theorem at_wrap (m l : Int) : IntKind.u64.wrap (m + IntKind.u64.wrap l) = atN m l := by rw [wrapM, wrapM]; unfold atN M; omega
theorem bef_iff (a b : Int) : bef a b = true ↔ (1 ≤ IntKind.u64.wrap (b - a) ∧ IntKind.u64.wrap (b - a) ≤ 9223372036854775807) := by rw [wrapM]; unfold bef; exact decide_eq_true_iff
theorem bef_not (a b : Int) : bef a b = false ↔ ¬ (1 ≤ IntKind.u64.wrap (b - a) ∧ IntKind.u64.wrap (b - a) ≤ 9223372036854775807) := by rw [wrapM]; unfold bef; exact decide_eq_false_iff_not

/-! ### At and Lag undo one another -/
theorem at_lag (a b : Int) (ha : U a) : atN b (lagN a b) = a := by unfold atN lagN U M at *; omega
theorem lag_at (a l : Int) (hl : I l) : lagN (atN a l) a = l := by unfold atN lagN I M at *; omega
theorem lag_more (a b c : Int) : lagN (IntKind.u64.wrap (a + c)) (IntKind.u64.wrap (b + c)) = lagN a b := by rw [wrapM, wrapM]; unfold lagN M; omega
theorem bef_more (a b c : Int) : bef (IntKind.u64.wrap (a + c)) (IntKind.u64.wrap (b + c)) = bef a b := by
  rw [wrapM, wrapM]
  have e : ((b + c) % M - (a + c) % M) % M = (b - a) % M := by unfold M; omega
  unfold bef; rw [e]
theorem bef_lag (a b : Int) : bef a b = decide (0 < lagN b a) := by
  unfold bef
  rw [decide_eq_decide]
  unfold lagN M; omega
theorem lag_neg (a b : Int) (h : lagN a b ≠ -9223372036854775808) : lagN b a = - lagN a b := by unfold lagN M at *; omega

/-! ### Of two times one is ahead -/
theorem bef_self (a : Int) : bef a a = false := by unfold bef M; rw [decide_eq_false_iff_not]; omega
theorem bef_asymm {a b : Int} (h : bef a b = true) : bef b a = false := by
  unfold bef M at *; rw [decide_eq_true_eq] at h; rw [decide_eq_false_iff_not]; omega
/-- .. unless they are the same, or as far apart as can be. -/
theorem same_iff (a b : Int) (ha : U a) (hb : U b) : (a = b ∨ IntKind.u64.wrap (a - b) = 9223372036854775808) ↔ (bef a b = false ∧ bef b a = false) := by
  rw [wrapM]; unfold bef U M at *
  rw [decide_eq_false_iff_not, decide_eq_false_iff_not]; omega

/-! ### Near a least time -/
def nearN (n : Int) : Int := n % 9223372036854775808 - 4611686018427387904
theorem near_b (n : Int) : -4611686018427387904 ≤ nearN n ∧ nearN n < 4611686018427387904 := by unfold nearN; omega
theorem I_near (n : Int) : I (nearN n) := by have := near_b n; unfold I; omega
theorem bef_near (m x y : Int) (hx : -4611686018427387904 ≤ x ∧ x < 4611686018427387904) (hy : -4611686018427387904 ≤ y ∧ y < 4611686018427387904) :
    bef (atN m x) (atN m y) = decide (x < y) := by
  unfold bef; rw [decide_eq_decide]; unfold atN M; omega

/-! ### Steps -/
theorem lag_step_ge (v m d : Int) (hd : I d) : lagN v m ≤ lagN (stepN v m d) m := by
  have hl := I_lag v m
  unfold stepN mx
  split
  · exact Int.le_refl _
  · rename_i h
    rw [lag_at _ _ (by unfold I at *; omega)]
    omega
theorem lag_step_le (v m d : Int) (hd : I d) : lagN (stepN v m d) m ≤ mx ∨ stepN v m d = v := by
  have hl := I_lag v m
  unfold stepN mx at *
  split
  · exact .inr rfl
  · rename_i h
    left
    rw [lag_at _ _ (by unfold I at *; omega)]
    omega
theorem step_lag (v m d : Int) (hd : I d) (h : lagN v m < mx) : lagN (stepN v m d) m = min mx (lagN v m + max d 0) := by
  have hl := I_lag v m
  unfold stepN mx at *
  split
  · omega
  · rw [lag_at _ _ (by unfold I at *; omega)]; omega
theorem lag_inj {x y m : Int} (hx : U x) (hy : U y) (h : lagN x m = lagN y m) : x = y := by
  rw [← at_lag x m hx, h, at_lag y m hy]
theorem step_far (v m d : Int) (h : mx ≤ lagN v m) : stepN v m d = v := by unfold stepN; rw [if_pos (.inr h)]
theorem step_two (v m d e : Int) (hv : U v) (hd : I d) (he : I e) (hde : I (d + e)) (d0 : 0 ≤ d) (e0 : 0 ≤ e) : stepN (stepN v m d) m e = stepN v m (d + e) := by
  by_cases h : mx ≤ lagN v m
  · rw [step_far v m d h, step_far v m e h, step_far v m _ h]
  · have h1 := step_lag v m d hd (by omega)
    have h2 := step_lag v m (d + e) hde (by omega)
    refine lag_inj (m := m) (U_step _ _ _ (U_step _ _ _ hv)) (U_step _ _ _ hv) ?_
    by_cases k : mx ≤ lagN (stepN v m d) m
    · rw [step_far _ m e k, h1, h2]; omega
    · rw [step_lag _ m e he (by omega), h1, h2]; omega

/-! ### Bounds -/
theorem clamp_ge (n l m : Int) (h : l ≤ m) : l ≤ clampN n l m := by unfold clampN; split; exact Int.le_refl _; split; exact h; omega
theorem clamp_le (n l m : Int) (h : l ≤ m) : clampN n l m ≤ m := by unfold clampN; split; omega; split <;> omega
theorem clamp_eq (n l m : Int) : clampN n l m = n ↔ (l ≤ n ∧ n ≤ m) := by unfold clampN; split; omega; split <;> omega
theorem clamp_two (n l m : Int) (h : l ≤ m) : clampN (clampN n l m) l m = clampN n l m := (clamp_eq _ l m).2 ⟨clamp_ge n l m h, clamp_le n l m h⟩
end Tn
end Go.Proofs.Ytgjacmkedgbneaa

namespace Go.Proofs.Ytgjacmkedgbneaa
namespace Ky
open Wd Tn

/-- A key: its time, its Id. -/
abbrev K := Int × Int
/-- A key's numbers lie in their kinds' bounds. -/
def Kin (k : K) : Prop := U k.1 ∧ I k.2
/-- Is a less than b, by m? -/
def ltK (m : Int) (a b : K) : Bool := decide (lagN a.1 m < lagN b.1 m ∨ (lagN a.1 m = lagN b.1 m ∧ a.2 < b.2))
theorem ltK_iff (m : Int) (a b : K) : ltK m a b = true ↔ (lagN a.1 m < lagN b.1 m ∨ (lagN a.1 m = lagN b.1 m ∧ a.2 < b.2)) := decide_eq_true_iff
theorem ltK_not (m : Int) (a b : K) : ltK m a b = false ↔ ¬ (lagN a.1 m < lagN b.1 m ∨ (lagN a.1 m = lagN b.1 m ∧ a.2 < b.2)) := decide_eq_false_iff_not
theorem lt_irrefl (m : Int) (a : K) : ltK m a a = false := by rw [ltK_not]; omega
theorem lt_trans {m : Int} {a b c : K} (h : ltK m a b = true) (k : ltK m b c = true) : ltK m a c = true := by rw [ltK_iff] at *; omega
theorem lt_ntrans {m : Int} {a b c : K} (h : ltK m a b = false) (k : ltK m b c = false) : ltK m a c = false := by rw [ltK_not] at *; omega
theorem lt_asymm {m : Int} {a b : K} (h : ltK m a b = true) : ltK m b a = false := by rw [ltK_iff] at h; rw [ltK_not]; omega
/-- Neither is less: they are one. -/
theorem lt_same {m : Int} {a b : K} (ha : Kin a) (hb : Kin b) (h : ltK m a b = false) (k : ltK m b a = false) : a = b := by
  rw [ltK_not] at h k
  have e1 : a.1 = b.1 := lag_inj ha.1 hb.1 (m := m) (by omega)
  have e2 : a.2 = b.2 := by omega
  exact Prod.ext e1 e2

/-! ### Sorted -/
/-- Keys are sorted. -/
def okK (m : Int) (l : List K) : Prop := l.Pairwise fun a b => ltK m a b = true ∧ a.2 ≠ b.2
instance (m : Int) (l : List K) : Decidable (okK m l) := by unfold okK; infer_instance
theorem okK_take {m : Int} {l : List K} (h : okK m l) (i : Nat) : okK m (l.take i) := h.sublist (List.take_sublist i l)
theorem okK_at {m : Int} {l : List K} (h : okK m l) {i j : Nat} (hij : i < j) (hj : j < l.length) : ltK m (l.getD i (0, 0)) (l.getD j (0, 0)) = true ∧ (l.getD i (0, 0)).2 ≠ (l.getD j (0, 0)).2 := by
  have := List.pairwise_iff_getElem.1 h i j (by omega) hj hij
  simpa [List.getD, show i < l.length by omega, hj] using this
theorem okK_of {m : Int} {l : List K} (h : ∀ i j, i < j → j < l.length → ltK m (l.getD i (0, 0)) (l.getD j (0, 0)) = true ∧ (l.getD i (0, 0)).2 ≠ (l.getD j (0, 0)).2) : okK m l :=
  List.pairwise_iff_getElem.2 fun i j hi hj hij => by
    have := h i j hij hj
    simpa [List.getD, hi, hj] using this
/-- One more, behind all. -/
theorem okK_more {m : Int} {l : List K} {i : Nat} (hi : i < l.length) (h : okK m (l.take i)) (h1 : 0 < i → ltK m (l.getD (i - 1) (0, 0)) (l.getD i (0, 0)) = true) (h2 : ∀ j, j < i → (l.getD j (0, 0)).2 ≠ (l.getD i (0, 0)).2) : okK m (l.take (i + 1)) := by
  refine okK_of fun a b hab hb => ?_
  have hb' : b < i + 1 := by simp [List.length_take] at hb; omega
  have ga : (l.take (i + 1)).getD a (0, 0) = l.getD a (0, 0) := by simp [List.getD, show a < i + 1 by omega]
  have gb : (l.take (i + 1)).getD b (0, 0) = l.getD b (0, 0) := by simp [List.getD, hb']
  rw [ga, gb]
  have old : ∀ a b, a < b → b < i → ltK m (l.getD a (0, 0)) (l.getD b (0, 0)) = true ∧ (l.getD a (0, 0)).2 ≠ (l.getD b (0, 0)).2 := fun a b h3 h4 => by
    have := okK_at h h3 (by simp [List.length_take]; omega)
    simpa [List.getD, List.getElem?_take, show a < i by omega, h4] using this
  by_cases hbi : b = i
  · subst hbi
    refine ⟨?_, h2 a hab⟩
    have hl := h1 (by omega)
    by_cases hai : a = b - 1
    · subst hai; exact hl
    · exact lt_trans (old a (b - 1) (by omega) (by omega)).1 hl
  · exact old a b hab (by omega)
theorem okK_less {m : Int} {l : List K} {i : Nat} (hi : i < l.length) (h : okK m l) (h0 : 0 < i) : ltK m (l.getD (i - 1) (0, 0)) (l.getD i (0, 0)) = true := (okK_at h (by omega) hi).1
/-- Turned on by the same, or by another least time that keeps all lags' order. -/
theorem okK_map {m m' : Int} {l : List K} {f : K → K} (h : okK m l) (hf : ∀ a b, a ∈ l → b ∈ l → ltK m a b = true → ltK m' (f a) (f b) = true) (hi : ∀ a, (f a).2 = a.2) : okK m' (l.map f) := by
  unfold okK at *
  rw [List.pairwise_map]
  refine List.Pairwise.imp_of_mem ?_ h
  intro a b ha hb hab
  exact ⟨hf a b ha hb hab.1, by rw [hi, hi]; exact hab.2⟩

/-! ### The first one -/
def fstK (m : Int) (a : K) (l : List K) : K := l.foldl (fun best k => if ltK m k best = true then k else best) a
/-- The first of all; nothing of none. -/
def firstK (m : Int) (l : List K) : K := fstK m (l.headD (0, 0)) l.tail
theorem fstK_more (m : Int) (a : K) (l : List K) (k : K) : fstK m a (l ++ [k]) = if ltK m k (fstK m a l) = true then k else fstK m a l := by unfold fstK; rw [List.foldl_append]; rfl
theorem fstK_mem (m : Int) (a : K) (l : List K) : fstK m a l = a ∨ fstK m a l ∈ l := by
  induction l generalizing a with
  | nil => exact .inl rfl
  | cons x l ih =>
    show fstK m (if ltK m x a = true then x else a) l = a ∨ fstK m (if ltK m x a = true then x else a) l ∈ x :: l
    rcases ih (if ltK m x a = true then x else a) with h | h
    · rw [h]; split
      · exact .inr (List.mem_cons_self ..)
      · exact .inl rfl
    · exact .inr (List.mem_cons_of_mem _ h)
theorem fstK_least (m : Int) (a : K) (l : List K) : ltK m a (fstK m a l) = false ∧ ∀ x ∈ l, ltK m x (fstK m a l) = false := by
  induction l generalizing a with
  | nil => exact ⟨lt_irrefl m a, fun x hx => by cases hx⟩
  | cons x l ih =>
    show ltK m a (fstK m (if ltK m x a = true then x else a) l) = false ∧ ∀ y ∈ x :: l, ltK m y (fstK m (if ltK m x a = true then x else a) l) = false
    cases hx : ltK m x a with
    | true =>
      rw [if_pos rfl]
      obtain ⟨h1, h2⟩ := ih x
      refine ⟨lt_ntrans (lt_asymm hx) h1, fun y hy => ?_⟩
      rcases List.mem_cons.1 hy with rfl | hy
      · exact h1
      · exact h2 y hy
    | false =>
      rw [if_neg (by decide)]
      obtain ⟨h1, h2⟩ := ih a
      refine ⟨h1, fun y hy => ?_⟩
      rcases List.mem_cons.1 hy with rfl | hy
      · exact lt_ntrans hx h1
      · exact h2 y hy

/-! ### Sorting -/
/-- A key, ahead of the first one that is greater. -/
def insK (m : Int) (k : K) : List K → List K
  | [] => [k]
  | x :: l => if ltK m k x = true then k :: x :: l else x :: insK m k l
def srtK (m : Int) (l : List K) : List K := l.foldl (fun out k => insK m k out) []
theorem srtK_more (m : Int) (l : List K) (k : K) : srtK m (l ++ [k]) = insK m k (srtK m l) := by unfold srtK; rw [List.foldl_append]; rfl
theorem insK_length (m : Int) (k : K) (l : List K) : (insK m k l).length = l.length + 1 := by
  induction l with
  | nil => rfl
  | cons x l ih => unfold insK; split <;> simp [ih]
theorem insK_perm (m : Int) (k : K) (l : List K) : (insK m k l).Perm (k :: l) := by
  induction l with
  | nil => exact .refl _
  | cons x l ih =>
    unfold insK
    split
    · exact .refl _
    · exact (ih.cons x).trans (.swap ..)
theorem fold_perm (m : Int) (l out : List K) : (l.foldl (fun out k => insK m k out) out).Perm (out ++ l) := by
  induction l generalizing out with
  | nil => simp
  | cons x l ih =>
    refine (ih (insK m x out)).trans ?_
    exact ((insK_perm m x out).append_right l).trans (List.perm_middle.symm)
theorem srtK_perm (m : Int) (l : List K) : (srtK m l).Perm l := fold_perm m l []
theorem srtK_length (m : Int) (l : List K) : (srtK m l).length = l.length := (srtK_perm m l).length_eq
theorem srtK_mem (m : Int) (l : List K) (k : K) : k ∈ srtK m l ↔ k ∈ l := (srtK_perm m l).mem_iff
/-- Ascending: no later one is less than an earlier one. -/
def Asc (m : Int) (l : List K) : Prop := l.Pairwise fun a b => ltK m b a = false
theorem insK_asc {m : Int} {k : K} {l : List K} (h : Asc m l) : Asc m (insK m k l) := by
  induction l with
  | nil => exact List.pairwise_singleton _ _
  | cons x l ih =>
    have hx := List.pairwise_cons.1 h
    unfold insK
    cases hk : ltK m k x with
    | true =>
      rw [if_pos rfl]
      refine List.pairwise_cons.2 ⟨fun y hy => ?_, h⟩
      rcases List.mem_cons.1 hy with rfl | hy
      · exact lt_asymm hk
      · exact lt_ntrans (hx.1 y hy) (lt_asymm hk)
    | false =>
      rw [if_neg (by decide)]
      refine List.pairwise_cons.2 ⟨fun y hy => ?_, ih hx.2⟩
      rcases List.mem_cons.1 ((insK_perm m k l).mem_iff.1 hy) with rfl | hy
      · exact hk
      · exact hx.1 y hy
theorem fold_asc (m : Int) (l out : List K) (h : Asc m out) : Asc m (l.foldl (fun out k => insK m k out) out) := by
  induction l generalizing out with
  | nil => exact h
  | cons x l ih => exact ih _ (insK_asc h)
theorem srtK_asc (m : Int) (l : List K) : Asc m (srtK m l) := fold_asc m l [] List.Pairwise.nil
/-- There is one ascending row. -/
theorem asc_one {m : Int} {a b : List K} (hin : ∀ k ∈ a, Kin k) (ha : Asc m a) (hb : Asc m b) (hp : a.Perm b) : a = b :=
  List.Perm.eq_of_pairwise (le := fun x y => ltK m y x = false) (fun x y hx hy h1 h2 => lt_same (hin x hx) (hin y (hp.mem_iff.2 hy)) h2 h1) ha hb hp
theorem srtK_one {m : Int} {l d : List K} (hin : ∀ k ∈ l, Kin k) (hd : Asc m d) (hp : d.Perm l) : d = srtK m l :=
  asc_one (fun k hk => hin k (hp.mem_iff.1 hk)) hd (srtK_asc m l) (hp.trans (srtK_perm m l).symm)
theorem okK_asc {m : Int} {l : List K} (h : okK m l) : Asc m l := h.imp fun hab => lt_asymm hab.1
/-- Ascending, and no Id twice: sorted. -/
theorem asc_okK {m : Int} {l : List K} (hin : ∀ k ∈ l, Kin k) (h : Asc m l) (hn : (l.map (·.2)).Nodup) : okK m l := by
  have h2 : l.Pairwise fun a b => a.2 ≠ b.2 := by rw [List.nodup_iff_pairwise_ne, List.pairwise_map] at hn; exact hn
  have h3 := List.pairwise_and_iff.2 ⟨h, h2⟩
  refine List.Pairwise.imp_of_mem ?_ h3
  intro a b ha hb hab
  refine ⟨?_, hab.2⟩
  cases hl : ltK m a b with
  | true => rfl
  | false => exact absurd (congrArg Prod.snd (lt_same (hin a ha) (hin b hb) hl hab.1)) hab.2
theorem okK_ids {m : Int} {l : List K} (h : okK m l) : (l.map (·.2)).Nodup := by
  rw [List.nodup_iff_pairwise_ne, List.pairwise_map]
  exact h.imp fun hab => hab.2

/-! ### Where one stands -/
/-- How many are not greater than k. -/
def posK (m : Int) (k : K) (l : List K) : Nat := l.countP fun x => !ltK m k x
theorem posK_le (m : Int) (k : K) (l : List K) : posK m k l ≤ l.length := List.countP_le_length
theorem insK_pos {m : Int} {k : K} {l : List K} (h : okK m l) : insK m k l = l.take (posK m k l) ++ k :: l.drop (posK m k l) := by
  induction l with
  | nil => rfl
  | cons x l ih =>
    have hx := List.pairwise_cons.1 h
    unfold insK posK
    cases hk : ltK m k x with
    | true =>
      have h0 : (x :: l).countP (fun y => !ltK m k y) = 0 := by
        rw [List.countP_eq_zero]
        intro y hy
        rcases List.mem_cons.1 hy with rfl | hy
        · simp [hk]
        · simp [lt_trans hk (hx.1 y hy).1]
      rw [if_pos rfl, h0]; rfl
    | false =>
      have h1 : (x :: l).countP (fun y => !ltK m k y) = posK m k l + 1 := by rw [List.countP_cons]; simp [hk, posK]
      rw [if_neg (by decide), h1, ih hx.2]; rfl
/-- What the search asks at each place. -/
theorem pos_mono {m : Int} {k : K} {l : List K} (h : okK m l) (a b : Nat) (hab : a ≤ b) (hb : b < l.length) (hp : ltK m k (l.getD a (0, 0)) = true) : ltK m k (l.getD b (0, 0)) = true := by
  rcases Nat.lt_or_ge a b with h1 | h1
  · exact lt_trans hp (okK_at h h1 hb).1
  · obtain rfl : a = b := by omega
    exact hp
theorem pos_range (m : Int) (k : K) (l : List K) : (List.range l.length).countP (fun i => !ltK m k (l.getD i (0, 0))) = posK m k l := by
  have h : l = (List.range l.length).map (fun i => l.getD i (0, 0)) := by
    apply List.ext_getElem
    · simp
    · intro i h1 h2
      simp [List.getD, h1]
  unfold posK
  conv => rhs; rw [h]
  rw [List.countP_map]; rfl

/-- Where an Id is; below 0: nowhere. -/
def idxK (id : Int) (l : List K) : Nat := l.findIdx fun x => decide (x.2 = id)
theorem idxK_le (id : Int) (l : List K) : idxK id l ≤ l.length := List.findIdx_le_length
theorem idxK_at {id : Int} {l : List K} {i : Nat} (hi : i < l.length) (h : (l.getD i (0, 0)).2 = id) (hn : ∀ j, j < i → (l.getD j (0, 0)).2 ≠ id) : idxK id l = i := by
  unfold idxK
  rw [List.findIdx_eq hi]
  refine ⟨by simpa [List.getD, hi] using h, fun j hj => ?_⟩
  have := hn j hj
  simpa [List.getD, show j < l.length by omega] using this
theorem idxK_none {id : Int} {l : List K} (h : ∀ j, j < l.length → (l.getD j (0, 0)).2 ≠ id) : idxK id l = l.length := by
  unfold idxK
  rw [List.findIdx_eq_length]
  intro x hx
  obtain ⟨j, hj, rfl⟩ := List.mem_iff_getElem.1 hx
  have := h j hj
  simpa [List.getD, hj] using this
theorem idxK_has {id : Int} {l : List K} (h : idxK id l < l.length) : (l.getD (idxK id l) (0, 0)).2 = id := by
  have := List.findIdx_getElem (p := fun x : K => decide (x.2 = id)) (xs := l) (w := h)
  unfold idxK at h ⊢
  simpa [List.getD, h] using this
theorem idxK_mem {id : Int} {l : List K} : idxK id l < l.length ↔ id ∈ l.map (·.2) := by
  unfold idxK
  rw [List.findIdx_lt_length]
  simp

/-! ### Put and Drop -/
def putE (m : Int) (l : List K) (k : K) : Int := if okK m l then (if idxK k.2 l < l.length then 1 else 0) else 4
def putL (m : Int) (l : List K) (k : K) : List K := if okK m l then (if idxK k.2 l < l.length then [] else insK m k l) else []
def dropE (m : Int) (l : List K) (id : Int) : Int := if okK m l then (if idxK id l < l.length then 0 else 8) else 4
def dropL (m : Int) (l : List K) (id : Int) : List K := if okK m l then (if idxK id l < l.length then l.take (idxK id l) ++ l.drop (idxK id l + 1) else []) else []
theorem put_unsorted {m : Int} {l : List K} (h : ¬ okK m l) (k : K) : putE m l k = 4 ∧ putL m l k = [] := by unfold putE putL; rw [if_neg h, if_neg h]; exact ⟨rfl, rfl⟩
theorem put_has {m : Int} {l : List K} (h : okK m l) {k : K} (hk : idxK k.2 l < l.length) : putE m l k = 1 ∧ putL m l k = [] := by unfold putE putL; rw [if_pos h, if_pos h, if_pos hk, if_pos hk]; exact ⟨rfl, rfl⟩
theorem put_new {m : Int} {l : List K} (h : okK m l) {k : K} (hk : ¬ idxK k.2 l < l.length) : putE m l k = 0 ∧ putL m l k = insK m k l := by unfold putE putL; rw [if_pos h, if_pos h, if_neg hk, if_neg hk]; exact ⟨rfl, rfl⟩
theorem drop_unsorted {m : Int} {l : List K} (h : ¬ okK m l) (id : Int) : dropE m l id = 4 ∧ dropL m l id = [] := by unfold dropE dropL; rw [if_neg h, if_neg h]; exact ⟨rfl, rfl⟩
theorem drop_has {m : Int} {l : List K} (h : okK m l) {id : Int} (hk : idxK id l < l.length) : dropE m l id = 0 ∧ dropL m l id = l.take (idxK id l) ++ l.drop (idxK id l + 1) := by unfold dropE dropL; rw [if_pos h, if_pos h, if_pos hk, if_pos hk]; exact ⟨rfl, rfl⟩
theorem drop_none {m : Int} {l : List K} (h : okK m l) {id : Int} (hk : ¬ idxK id l < l.length) : dropE m l id = 8 ∧ dropL m l id = [] := by unfold dropE dropL; rw [if_pos h, if_pos h, if_neg hk, if_neg hk]; exact ⟨rfl, rfl⟩
theorem insK_in {m : Int} {k : K} {l : List K} (hl : ∀ x ∈ l, Kin x) (hk : Kin k) : ∀ x ∈ insK m k l, Kin x := fun x hx => by
  rcases List.mem_cons.1 ((insK_perm m k l).mem_iff.1 hx) with rfl | h
  · exact hk
  · exact hl x h
/-- With one more it is sorted still. -/
theorem insK_ok {m : Int} {k : K} {l : List K} (hl : ∀ x ∈ l, Kin x) (hk : Kin k) (h : okK m l) (hn : ¬ idxK k.2 l < l.length) : okK m (insK m k l) := by
  refine asc_okK (insK_in hl hk) (insK_asc (okK_asc h)) ?_
  have hp : ((insK m k l).map (·.2)).Perm (k.2 :: l.map (·.2)) := (insK_perm m k l).map _
  rw [hp.nodup_iff]
  exact List.nodup_cons.2 ⟨fun hm => hn (idxK_mem.2 hm), okK_ids h⟩
end Ky
end Go.Proofs.Ytgjacmkedgbneaa

namespace Go.Proofs.Ytgjacmkedgbneaa
namespace Tr
open Wd Tn Ky

/-- A node: In, Red, V, Left, Right, Up. -/
structure N where
  inn : Bool
  red : Bool
  v : Int
  l : Int
  r : Int
  u : Int
/-- A tree: its root, its nodes. -/
structure T where
  root : Int
  ns : List N
/-- An empty node. -/
def nE : N := ⟨false, false, 0, -1, -1, -1⟩
/-- The node of a number. -/
def T.nd (t : T) (i : Int) : N := t.ns.getD i.toNat nE
def T.put (t : T) (i : Int) (n : N) : T := ⟨t.root, t.ns.set i.toNat n⟩
/-- It is a node's number. -/
def T.has (t : T) (i : Int) : Prop := 0 ≤ i ∧ i < t.ns.length
instance (t : T) (i : Int) : Decidable (t.has i) := by unfold T.has; infer_instance
/-- It is a node's number, or none. -/
def T.ok (t : T) (i : Int) : Prop := i = -1 ∨ t.has i
/-- Is there a node, and is it Red? -/
def T.redB (t : T) (i : Int) : Bool := decide (i ≠ -1) && (t.nd i).red
/-- A side, as a number: right is true. -/
def sI (s : Bool) : Int := if s then 1 else 0
def N.kid (n : N) (s : Bool) : Int := if s then n.r else n.l
def N.setKid (n : N) (s : Bool) (y : Int) : N := if s then { n with r := y } else { n with l := y }
def N.setUp (n : N) (y : Int) : N := { n with u := y }
def N.setRed (n : N) (b : Bool) : N := { n with red := b }
def T.kid (t : T) (i : Int) (s : Bool) : Int := (t.nd i).kid s
def T.up (t : T) (i : Int) : Int := (t.nd i).u
def T.paint (t : T) (i : Int) (b : Bool) : T := t.put i ((t.nd i).setRed b)
def T.side (t : T) (i : Int) : Bool := decide (t.up i ≠ -1) && decide (t.kid (t.up i) true = i)
def T.at (t : T) (u : Int) (s : Bool) : Int := if u = -1 then t.root else t.kid u s
def T.setUp (t : T) (y u : Int) : T := if y = -1 then t else t.put y ((t.nd y).setUp u)
def T.setKid (t : T) (u : Int) (s : Bool) (y : Int) : T := if u = -1 then ⟨y, t.ns⟩ else t.put u ((t.nd u).setKid s y)
/-- y, or no node, stands on a side of u; of no u, at the root's place. -/
def T.hang (t : T) (u : Int) (s : Bool) (y : Int) : T := (t.setKid u s y).setUp y u
/-- x is turned to a side. -/
def T.turn (t : T) (x : Int) (s : Bool) : T :=
  (((t.hang x (!s) (t.kid (t.kid x (!s)) s)).hang (t.up x) (t.side x) (t.kid x (!s))).hang (t.kid x (!s)) s x)

theorem put_len (t : T) (i : Int) (n : N) : (t.put i n).ns.length = t.ns.length := by simp [T.put]
theorem setUp_len (t : T) (y u : Int) : (t.setUp y u).ns.length = t.ns.length := by unfold T.setUp; split <;> simp [put_len]
theorem setKid_len (t : T) (u : Int) (s : Bool) (y : Int) : (t.setKid u s y).ns.length = t.ns.length := by unfold T.setKid; split <;> simp [put_len]
theorem hang_len (t : T) (u : Int) (s : Bool) (y : Int) : (t.hang u s y).ns.length = t.ns.length := by unfold T.hang; rw [setUp_len, setKid_len]
theorem paint_len (t : T) (i : Int) (b : Bool) : (t.paint i b).ns.length = t.ns.length := put_len _ _ _
theorem turn_len (t : T) (x : Int) (s : Bool) : (t.turn x s).ns.length = t.ns.length := by unfold T.turn; simp only [hang_len]
theorem has_len {t t' : T} (h : t'.ns.length = t.ns.length) {i : Int} : t'.has i ↔ t.has i := by unfold T.has; rw [h]
theorem ok_len {t t' : T} (h : t'.ns.length = t.ns.length) {i : Int} : t'.ok i ↔ t.ok i := by unfold T.ok; rw [has_len h]
theorem nd_put_same {t : T} {i : Int} (h : t.has i) (n : N) : (t.put i n).nd i = n := by
  unfold T.has at h
  simp [T.put, T.nd, List.getD, show i.toNat < t.ns.length by omega]
theorem nd_put_other {t : T} {i j : Int} (hi : 0 ≤ i) (hj : 0 ≤ j) (hne : i ≠ j) (n : N) : (t.put i n).nd j = t.nd j := by
  simp [T.put, T.nd, List.getD, show i.toNat ≠ j.toNat by omega]
theorem root_put (t : T) (i : Int) (n : N) : (t.put i n).root = t.root := rfl

/-- x can be turned to a side. -/
structure TurnOk (t : T) (x : Int) (s : Bool) : Prop where
  hx : t.has x
  hu : t.ok (t.up x)
  hr : t.has (t.kid x (!s))
  hk : t.ok (t.kid (t.kid x (!s)) s)
/-- What mending, from x on, makes of a tree, in at most so many rounds. -/
inductive Mend : Nat → T → Int → T → Prop
  | done (n : Nat) (t : T) (x : Int) (hx : t.has x) (hu : t.ok (t.up x)) (hr : t.redB (t.up x) = false) (h0 : t.has t.root) : Mend n t x (t.paint t.root false)
  | up (n : Nat) (t t' : T) (x p g u : Int) (s : Bool) (hx : t.has x) (ep : t.up x = p) (hp : t.has p) (rp : t.redB p = true) (eg : t.up p = g) (hg : t.has g) (es : t.side p = s) (eu : t.kid g (!s) = u) (hu : t.has u) (ru : t.redB u = true)
      (rest : Mend n (((t.paint p false).paint u false).paint g true) g t') : Mend (n + 1) t x t'
  | out (n : Nat) (t t' : T) (x p g u : Int) (s : Bool) (hx : t.has x) (ep : t.up x = p) (hp : t.has p) (rp : t.redB p = true) (eg : t.up p = g) (hg : t.has g) (es : t.side p = s) (eu : t.kid g (!s) = u) (hu : t.ok u) (ru : t.redB u = false)
      (ex : t.side x = s) (nx : t.kid p (!s) ≠ x) (ht : TurnOk ((t.paint p false).paint g true) g (!s))
      (rest : Mend n (((t.paint p false).paint g true).turn g (!s)) x t') : Mend (n + 1) t x t'
  | inn (n : Nat) (t t' : T) (x p g u : Int) (s : Bool) (hx : t.has x) (ep : t.up x = p) (hp : t.has p) (rp : t.redB p = true) (eg : t.up p = g) (hg : t.has g) (es : t.side p = s) (eu : t.kid g (!s) = u) (hu : t.ok u) (ru : t.redB u = false)
      (ex : t.side x = !s) (nx : t.kid p (!s) = x) (h1 : TurnOk t p s) (e1 : (t.turn p s).up p = x) (ht : TurnOk (((t.turn p s).paint x false).paint g true) g (!s))
      (rest : Mend n ((((t.turn p s).paint x false).paint g true).turn g (!s)) p t') : Mend (n + 1) t x t'
theorem Mend.len {n : Nat} {t t' : T} {x : Int} (h : Mend n t x t') : t'.ns.length = t.ns.length := by
  induction h with
  | done => exact paint_len _ _ _
  | up n t t' x p g u s hx ep hp rp eg hg es eu hu ru rest ih => rw [ih, paint_len, paint_len, paint_len]
  | out n t t' x p g u s hx ep hp rp eg hg es eu hu ru ex nx ht rest ih => rw [ih, turn_len, paint_len, paint_len]
  | inn n t t' x p g u s hx ep hp rp eg hg es eu hu ru ex nx h1 e1 ht rest ih => rw [ih, turn_len, paint_len, paint_len, turn_len]
end Tr
end Go.Proofs.Ytgjacmkedgbneaa

namespace Go.Proofs.Ytgjacmkedgbneaa
namespace Tr
open Wd Tn Ky

/-- The key of a node. -/
def T.key (t : T) (i : Int) : K := ((t.nd i).v, i)
/-- From x on, which stands on the side s of u, the way down to where k is to stand: on the side s' of u'. -/
inductive Down (m : Int) (k : K) (t : T) : Nat → Int → Int → Bool → Int → Bool → Prop
  | stop (n : Nat) (u : Int) (s : Bool) (hu : t.ok u) : Down m k t n (-1) u s u s
  | step (n : Nat) (x u u' : Int) (s s' : Bool) (hx : t.has x) (rest : Down m k t n (t.kid x (!(ltK m k (t.key x)))) x (!(ltK m k (t.key x))) u' s') : Down m k t (n + 1) x u s u' s'
theorem Down.parts {m : Int} {k : K} {t : T} {n : Nat} {x u u' : Int} {s s' : Bool} (h : Down m k t n x u s u' s') :
    (x = -1 ∧ u' = u ∧ s' = s ∧ t.ok u) ∨ ∃ n', n = n' + 1 ∧ t.has x ∧ Down m k t n' (t.kid x (!(ltK m k (t.key x)))) x (!(ltK m k (t.key x))) u' s' := by
  cases h with
  | stop n u s hu => exact .inl ⟨rfl, rfl, rfl, hu⟩
  | step n x u u' s s' hx rest => exact .inr ⟨n, rfl, hx, rest⟩
theorem Down.ok {m : Int} {k : K} {t : T} {n : Nat} {x u u' : Int} {s s' : Bool} (h : Down m k t n x u s u' s') : t.ok x := by
  rcases h.parts with ⟨rfl, -⟩ | ⟨_, -, hx, -⟩
  · exact .inl rfl
  · exact .inr hx
theorem Down.last {m : Int} {k : K} {t : T} {n : Nat} {x u u' : Int} {s s' : Bool} (h : Down m k t n x u s u' s') : t.ok u' := by
  induction h with
  | stop n u s hu => exact hu
  | step n x u u' s s' hx rest ih => exact ih
/-- A node that has just come. -/
def nNew (v : Int) : N := ⟨true, true, v, -1, -1, 0⟩

/-- The place on the near side of p is filled for good, the far child of the node on the other side being Red. -/
def SetFar (t : T) (p : Int) (s : Bool) (t' : T) : Prop :=
  ∃ v f : Int, t.has p ∧ t.kid p (!s) = v ∧ t.has v ∧ t.kid v (!s) = f ∧ t.has f ∧
    TurnOk (((t.paint v (t.nd p).red).paint p false).paint f false) p s ∧ t' = (((t.paint v (t.nd p).red).paint p false).paint f false).turn p s
/-- The place on the near side of p is filled for good. -/
def Settle (t : T) (p : Int) (s : Bool) (t' : T) : Prop :=
  ∃ v f : Int, t.has p ∧ t.kid p (!s) = v ∧ t.has v ∧ t.kid v (!s) = f ∧ t.ok f ∧
    ((t.redB f = true ∧ SetFar t p s t') ∨
     (t.redB f = false ∧ ∃ c, t.kid v s = c ∧ t.has c ∧ TurnOk ((t.paint c false).paint v true) v (!s) ∧ SetFar (((t.paint c false).paint v true).turn v (!s)) p s t'))
/-- What filling the place on the side s of u makes of a tree, in at most so many rounds. -/
inductive Fill : Nat → T → Int → Bool → T → Prop
  | root (n : Nat) (t : T) (s : Bool) (h0 : t.ok t.root) : Fill n t (-1) s (if t.root = -1 then t else t.paint t.root false)
  | redp (n : Nat) (t : T) (u y : Int) (s : Bool) (hu : t.has u) (ey : t.kid u s = y) (hy : t.has y) (ry : t.redB y = true) : Fill n t u s (t.paint y false)
  | turn (n : Nat) (t t' : T) (u v : Int) (s : Bool) (hu : t.has u) (hk : t.ok (t.kid u s)) (rk : t.redB (t.kid u s) = false) (ev : t.kid u (!s) = v) (hv : t.has v) (rv : t.redB v = true)
      (ht : TurnOk ((t.paint v false).paint u true) u s)
      (r2 : (((t.paint v false).paint u true).turn u s).redB ((((t.paint v false).paint u true).turn u s).kid u s) = false)
      (r1 : (((t.paint v false).paint u true).turn u s).redB ((((t.paint v false).paint u true).turn u s).kid u (!s)) = false)
      (rest : Fill n (((t.paint v false).paint u true).turn u s) u s t') : Fill (n + 1) t u s t'
  | settle (n : Nat) (t t' : T) (u v : Int) (s : Bool) (hu : t.has u) (hk : t.ok (t.kid u s)) (rk : t.redB (t.kid u s) = false) (ev : t.kid u (!s) = v) (hv : t.has v) (rv : t.redB v = false)
      (ol : t.ok (t.kid v false)) (or : t.ok (t.kid v true)) (rr : (t.redB (t.kid v false) || t.redB (t.kid v true)) = true) (hs : Settle t u s t') : Fill n t u s t'
  | up (n : Nat) (t t' : T) (u v : Int) (s : Bool) (hu : t.has u) (hk : t.ok (t.kid u s)) (rk : t.redB (t.kid u s) = false) (ev : t.kid u (!s) = v) (hv : t.has v) (rv : t.redB v = false)
      (ol : t.ok (t.kid v false)) (or : t.ok (t.kid v true)) (rr : (t.redB (t.kid v false) || t.redB (t.kid v true)) = false) (hp : (t.paint v true).ok ((t.paint v true).up u))
      (rest : Fill n (t.paint v true) ((t.paint v true).up u) ((t.paint v true).side u) t') : Fill (n + 1) t u s t'
/-- What follows where w's color is settled. -/
def FillV (m : Nat) (t : T) (u v : Int) (s : Bool) (t' : T) : Prop :=
  t.has u ∧ t.kid u (!s) = v ∧ t.has v ∧ t.ok (t.kid v false) ∧ t.ok (t.kid v true) ∧
    (((t.redB (t.kid v false) || t.redB (t.kid v true)) = true ∧ Settle t u s t') ∨
     ((t.redB (t.kid v false) || t.redB (t.kid v true)) = false ∧ 0 < m ∧ (t.paint v true).ok ((t.paint v true).up u) ∧ Fill (m - 1) (t.paint v true) ((t.paint v true).up u) ((t.paint v true).side u) t'))
theorem has_ne {t : T} {i : Int} (h : t.has i) : i ≠ -1 := by unfold T.has at h; omega
theorem Fill.black {m : Nat} {t t' : T} {u : Int} {s : Bool} (h : Fill m t u s t') (hu : t.has u) (rk : t.redB (t.kid u s) = false) (rv : t.redB (t.kid u (!s)) = false) : FillV m t u (t.kid u (!s)) s t' := by
  cases h with
  | root n t s h0 => exact absurd rfl (has_ne hu)
  | redp n t u y s hu' ey hy ry => rw [ey] at rk; rw [rk] at ry; cases ry
  | turn n t t' u v s hu' hk rk' ev hv rv' ht r2 r1 rest => rw [ev] at rv; rw [rv] at rv'; cases rv'
  | settle n t t' u v s hu' hk rk' ev hv rv' ol or rr hs => subst ev; exact ⟨hu, rfl, hv, ol, or, .inl ⟨rr, hs⟩⟩
  | up n t t' u v s hu' hk rk' ev hv rv' ol or rr hp rest => subst ev; exact ⟨hu, rfl, hv, ol, or, .inr ⟨rr, by omega, hp, rest⟩⟩
theorem Fill.parts {n : Nat} {t t' : T} {u : Int} {s : Bool} (h : Fill n t u s t') :
    (u = -1 ∧ t.ok t.root ∧ t' = if t.root = -1 then t else t.paint t.root false) ∨
    (t.has u ∧ t.has (t.kid u s) ∧ t.redB (t.kid u s) = true ∧ t' = t.paint (t.kid u s) false) ∨
    (t.has u ∧ t.ok (t.kid u s) ∧ t.redB (t.kid u s) = false ∧ t.has (t.kid u (!s)) ∧
      ((t.redB (t.kid u (!s)) = true ∧ TurnOk ((t.paint (t.kid u (!s)) false).paint u true) u s ∧ ∃ m, m < n ∧ FillV m (((t.paint (t.kid u (!s)) false).paint u true).turn u s) u ((((t.paint (t.kid u (!s)) false).paint u true).turn u s).kid u (!s)) s t') ∨
       (t.redB (t.kid u (!s)) = false ∧ FillV n t u (t.kid u (!s)) s t'))) := by
  cases h with
  | root n t s h0 => exact .inl ⟨rfl, h0, rfl⟩
  | redp n t u y s hu ey hy ry => subst ey; exact .inr (.inl ⟨hu, hy, ry, rfl⟩)
  | turn n t t' u v s hu hk rk ev hv rv ht r2 r1 rest =>
    subst ev
    have hu' : (((t.paint (t.kid u (!s)) false).paint u true).turn u s).has u := (has_len (by rw [turn_len, paint_len, paint_len])).2 hu
    exact .inr (.inr ⟨hu, hk, rk, hv, .inl ⟨rv, ht, n, by omega, rest.black hu' r2 r1⟩⟩)
  | settle n t t' u v s hu hk rk ev hv rv ol or rr hs => subst ev; exact .inr (.inr ⟨hu, hk, rk, hv, .inr ⟨rv, hu, rfl, hv, ol, or, .inl ⟨rr, hs⟩⟩⟩)
  | up n t t' u v s hu hk rk ev hv rv ol or rr hp rest => subst ev; exact .inr (.inr ⟨hu, hk, rk, hv, .inr ⟨rv, hu, rfl, hv, ol, or, .inr ⟨rr, by omega, hp, rest⟩⟩⟩)
/-- Colors change no kid, no Up. -/
theorem nd_paint (t : T) (i j : Int) (b : Bool) : ((t.paint i b).nd j).l = (t.nd j).l ∧ ((t.paint i b).nd j).r = (t.nd j).r ∧ ((t.paint i b).nd j).u = (t.nd j).u := by
  unfold T.paint T.put T.nd
  simp only [List.getD, List.getElem?_set]
  split
  · rename_i h
    split
    · rename_i h2
      rw [← h]
      simp [N.setRed, h2]
    · rename_i h2
      rw [← h]
      simp [h2]
  · simp
theorem kid_paint (t : T) (i j : Int) (b s : Bool) : (t.paint i b).kid j s = t.kid j s := by
  unfold T.kid N.kid
  rw [(nd_paint t i j b).1, (nd_paint t i j b).2.1]
theorem up_paint (t : T) (i j : Int) (b : Bool) : (t.paint i b).up j = t.up j := (nd_paint t i j b).2.2
end Tr
end Go.Proofs.Ytgjacmkedgbneaa

namespace Go.Proofs.Ytgjacmkedgbneaa
namespace Tr
open Wd Tn Ky

/-- From y on by Left, as long as there is one. -/
inductive Leftmost (t : T) : Nat → Int → Int → Prop
  | stop (n : Nat) (y : Int) (hy : t.has y) (hl : t.kid y false = -1) : Leftmost t n y y
  | step (n : Nat) (y y' : Int) (hy : t.has y) (hl : t.kid y false ≠ -1) (rest : Leftmost t n (t.kid y false) y') : Leftmost t (n + 1) y y'
theorem Leftmost.parts {t : T} {n : Nat} {y y' : Int} (h : Leftmost t n y y') : t.has y ∧ ((t.kid y false = -1 ∧ y' = y) ∨ (t.kid y false ≠ -1 ∧ ∃ m, n = m + 1 ∧ Leftmost t m (t.kid y false) y')) := by
  cases h with
  | stop n y hy hl => exact ⟨hy, .inl ⟨hl, rfl⟩⟩
  | step n y y' hy hl rest => exact ⟨hy, .inr ⟨hl, n, rfl, rest⟩⟩
theorem Leftmost.last {t : T} {n : Nat} {y y' : Int} (h : Leftmost t n y y') : t.has y' := by
  induction h with
  | stop n y hy hl => exact hy
  | step n y y' hy hl rest ih => exact ih
/-- y takes z's place, step by step. -/
def rep1 (t : T) (y : Int) : T := t.hang (t.up y) (t.side y) (t.kid y true)
def rep2 (t : T) (z y : Int) : T := (rep1 t y).hang ((rep1 t y).up z) ((rep1 t y).side z) y
def rep3 (t : T) (z y : Int) : T := (rep2 t z y).hang y false ((rep2 t z y).kid z false)
def rep4 (t : T) (z y : Int) : T := (rep3 t z y).hang y true ((rep3 t z y).kid z true)
def rep5 (t : T) (z y : Int) : T := (rep4 t z y).paint y ((rep4 t z y).nd z).red
/-- y can take z's place. -/
structure RepOk (t : T) (z y : Int) : Prop where
  hz : t.has z
  hy : t.has y
  hu : t.ok (t.up y)
  hr : t.ok (t.kid y true)
  uz : (rep1 t y).ok ((rep1 t y).up z)
  kl : (rep2 t z y).ok ((rep2 t z y).kid z false)
  kr : (rep3 t z y).ok ((rep3 t z y).kid z true)
theorem rep1_len (t : T) (y : Int) : (rep1 t y).ns.length = t.ns.length := hang_len _ _ _ _
theorem rep2_len (t : T) (z y : Int) : (rep2 t z y).ns.length = t.ns.length := (hang_len _ _ _ _).trans (rep1_len t y)
theorem rep3_len (t : T) (z y : Int) : (rep3 t z y).ns.length = t.ns.length := (hang_len _ _ _ _).trans (rep2_len t z y)
theorem rep4_len (t : T) (z y : Int) : (rep4 t z y).ns.length = t.ns.length := (hang_len _ _ _ _).trans (rep3_len t z y)
theorem rep5_len (t : T) (z y : Int) : (rep5 t z y).ns.length = t.ns.length := (paint_len _ _ _).trans (rep4_len t z y)
/-- A node is taken out: what the tree is then (its node not yet empty), what goes, the place to be filled. -/
inductive Out (t : T) (z : Int) : T → Bool → Int → Bool → Prop
  | left (hl : t.kid z false = -1) (hr : t.ok (t.kid z true)) : Out t z (t.hang (t.up z) (t.side z) (t.kid z true)) (t.nd z).red (t.up z) (t.side z)
  | right (hl : t.kid z false ≠ -1) (hl' : t.ok (t.kid z false)) (hr : t.kid z true = -1) : Out t z (t.hang (t.up z) (t.side z) (t.kid z false)) (t.nd z).red (t.up z) (t.side z)
  | both (n : Nat) (y : Int) (hl : t.kid z false ≠ -1) (hr : t.kid z true ≠ -1) (hm : Leftmost t n (t.kid z true) y) (ho : RepOk t z y) : Out t z (rep5 t z y) (t.nd y).red (if t.up y = z then y else t.up y) (t.side y)
theorem Out.len {t t1 : T} {z u : Int} {g s : Bool} (h : Out t z t1 g u s) : t1.ns.length = t.ns.length := by
  cases h with
  | left hl hr => exact hang_len _ _ _ _
  | right hl hl' hr => exact hang_len _ _ _ _
  | both n y hl hr hm ho => exact rep5_len _ _ _
/-- What taking a node out makes of a tree. -/
def Remove (t : T) (z : Int) (t' : T) : Prop :=
  t.has z ∧ t.ok (t.up z) ∧ ∃ (t1 : T) (g : Bool) (u : Int) (s : Bool), Out t z t1 g u s ∧ ((g = true ∧ t' = t1.put z nE) ∨ (g = false ∧ ∃ n, Fill n (t1.put z nE) u s t'))
end Tr
end Go.Proofs.Ytgjacmkedgbneaa

namespace Go.Proofs.Ytgjacmkedgbneaa
namespace Tr
open Wd Tn Ky

/-- How many are not met. -/
def cnt (met : List Bool) : Nat := met.countP (fun b => !b)
/-- What is met from x on, which is come by from u: is all in order, and what is met then. -/
def meetF (t : T) : Nat → Int → Int → List Bool → Bool × List Bool
  | 0, x, _, met => (decide (x = -1), met)
  | n + 1, x, u, met =>
    if x = -1 then (true, met)
    else if t.has x ∧ met.getD x.toNat false = false ∧ t.up x = u then
      if (meetF t n (t.kid x false) x (met.set x.toNat true)).1 = true then meetF t n (t.kid x true) x (meetF t n (t.kid x false) x (met.set x.toNat true)).2
      else (false, (meetF t n (t.kid x false) x (met.set x.toNat true)).2)
    else (false, met)
theorem meetF_len (t : T) (n : Nat) : ∀ (x u : Int) (met : List Bool), (meetF t n x u met).2.length = met.length := by
  induction n with
  | zero => intro x u met; rfl
  | succ n ih =>
    intro x u met
    unfold meetF
    split
    · rfl
    · split
      · split
        · rw [ih, ih, List.length_set]
        · rw [ih, List.length_set]
      · rfl
theorem cnt_set {met : List Bool} {k : Nat} (hk : k < met.length) (h : met.getD k false = false) : cnt (met.set k true) + 1 = cnt met := by
  induction met generalizing k with
  | nil => exact absurd hk (Nat.not_lt_zero _)
  | cons a l ih =>
    match k with
    | 0 =>
      have : a = false := by simpa [List.getD] using h
      subst this
      simp [cnt]
    | k + 1 =>
      have := ih (k := k) (by simpa using hk) (by simpa [List.getD] using h)
      unfold cnt at *
      rw [List.set_cons_succ, List.countP_cons, List.countP_cons]
      omega
theorem cnt_zero {met : List Bool} (h : cnt met = 0) {k : Nat} (hk : k < met.length) : met.getD k false = true := by
  unfold cnt at h
  have := List.countP_eq_zero.1 h (met.getD k false) (by simp [List.getD, hk])
  simpa using this
theorem meetF_cnt (t : T) (n : Nat) : ∀ (x u : Int) (met : List Bool), t.ns.length ≤ met.length → cnt (meetF t n x u met).2 ≤ cnt met := by
  induction n with
  | zero => intro x u met _; exact Nat.le_refl _
  | succ n ih =>
    intro x u met hl
    unfold meetF
    split
    · exact Nat.le_refl _
    · split
      · rename_i hx
        have h1 := cnt_set (met := met) (k := x.toNat) (by have := hx.1; unfold T.has at this; omega) hx.2.1
        have h2 := ih (t.kid x false) x (met.set x.toNat true) (by rw [List.length_set]; exact hl)
        split
        · have h3 := ih (t.kid x true) x (meetF t n (t.kid x false) x (met.set x.toNat true)).2 (by rw [meetF_len, List.length_set]; exact hl)
          omega
        · simp only; omega
      · exact Nat.le_refl _
theorem N_eq (a b : N) : (a.inn = b.inn ∧ a.red = b.red ∧ a.v = b.v ∧ a.l = b.l ∧ a.r = b.r ∧ a.u = b.u) ↔ a = b := by
  cases a; cases b; simp
instance : DecidableEq N := fun a b => decidable_of_iff _ (N_eq a b)
/-- Is a tree whole? -/
def okN (t : T) (met : List Bool) (i : Nat) : Prop := (t.nd i).inn = met.getD i false ∧ ((t.nd i).inn = true ∨ t.nd i = nE)
def wholeP (t : T) : Prop := t.ns.length ≤ 64 ∧ (meetF t 64 t.root (-1) (List.replicate 64 false)).1 = true ∧ ∀ i : Nat, i < t.ns.length → okN t (meetF t 64 t.root (-1) (List.replicate 64 false)).2 i
instance (t : T) (met : List Bool) (i : Nat) : Decidable (okN t met i) := by unfold okN; infer_instance
instance (t : T) : Decidable (wholeP t) := by unfold wholeP; infer_instance
end Tr
end Go.Proofs.Ytgjacmkedgbneaa

namespace Go.Proofs.Ytgjacmkedgbneaa
namespace Tr
open Wd Tn Ky

/-- A tree as one: nothing, or a node: its number, its color, its time, its children (right is true). -/
inductive B where
  | L : B
  | N (i : Int) (c : Bool) (v : Int) (k : Bool → B) : B
/-- The number of its root. -/
def B.rid : B → Int
  | .L => -1
  | .N i _ _ _ => i
def B.isRed : B → Bool
  | .L => false
  | .N _ c _ _ => c
/-- Its keys, in the walk's order. -/
def B.keys : B → List K
  | .L => []
  | .N i _ v k => (k false).keys ++ (v, i) :: (k true).keys
/-- Its nodes' numbers, in the walk's order. -/
def B.ids : B → List Int
  | .L => []
  | .N i _ _ k => (k false).ids ++ i :: (k true).ids
def B.high : B → Nat
  | .L => 0
  | .N _ _ _ k => 1 + max (k false).high (k true).high
/-- How many nodes that are not Red each way has, and whether these are as many on each, and no Red one has a Red child. -/
def B.plain : B → Nat × Bool
  | .L => (0, true)
  | .N _ c _ k =>
    if (k false).plain.2 = true ∧ (k true).plain.2 = true ∧ (k false).plain.1 = (k true).plain.1 then
      if c then ((k false).plain.1, !(k false).isRed && !(k true).isRed) else ((k false).plain.1 + 1, true)
    else (0, false)
theorem B.ids_len : (b : B) → b.ids.length = b.keys.length
  | .L => rfl
  | .N i c v k => by simp only [B.ids, B.keys, List.length_append, List.length_cons, B.ids_len (k false), B.ids_len (k true)]
theorem B.high_le : (b : B) → b.high ≤ b.keys.length
  | .L => Nat.le_refl _
  | .N i c v k => by
    have h1 := B.high_le (k false)
    have h2 := B.high_le (k true)
    simp only [B.high, B.keys, List.length_append, List.length_cons]
    omega
theorem B.plain_le : (b : B) → b.plain.1 ≤ b.keys.length
  | .L => Nat.le_refl _
  | .N i c v k => by
    have h1 := B.plain_le (k false)
    simp only [B.plain, B.keys, List.length_append, List.length_cons]
    split
    · split <;> (simp only; omega)
    · simp only; omega
/-- The nodes from b's root on, which is come by from u, are just b. -/
def Sub (t : T) : B → Int → Prop
  | .L, _ => True
  | .N i c v k, u => t.has i ∧ t.nd i = ⟨true, c, v, (k false).rid, (k true).rid, u⟩ ∧ Sub t (k false) i ∧ Sub t (k true) i
theorem Sub.ok {t : T} {b : B} {u : Int} (h : Sub t b u) : t.ok b.rid := by
  cases b with
  | L => exact .inl rfl
  | N i c v k => exact .inr h.1
theorem Sub.red {t : T} {b : B} {u : Int} (h : Sub t b u) : t.redB b.rid = b.isRed := by
  cases b with
  | L => rfl
  | N i c v k =>
    have : i ≠ -1 := by have := h.1; unfold T.has at this; omega
    simp [T.redB, B.rid, B.isRed, h.2.1, this]
/-- The tree's nodes are just b, all others are empty. -/
structure Whole (t : T) (b : B) : Prop where
  len : t.ns.length ≤ 64
  root : t.root = b.rid
  sub : Sub t b (-1)
  nod : b.ids.Nodup
  rest : ∀ i, t.has i → i ∉ b.ids → t.nd i = nE
theorem Sub.has {t : T} : {b : B} → {u : Int} → Sub t b u → ∀ i ∈ b.ids, t.has i ∧ (t.nd i).inn = true
  | .L, _, _, i, hi => by cases hi
  | .N j c v k, u, h, i, hi => by
    simp only [B.ids, List.mem_append, List.mem_cons] at hi
    rcases hi with hi | rfl | hi
    · exact Sub.has h.2.2.1 i hi
    · exact ⟨h.1, by rw [h.2.1]⟩
    · exact Sub.has h.2.2.2 i hi
theorem Sub.keyU {t : T} (hU : ∀ x ∈ t.ns, U x.v) (hlen : t.ns.length ≤ 64) : {b : B} → {u : Int} → Sub t b u → ∀ x ∈ b.keys, Kin x
  | .L, _, _, x, hx => by cases hx
  | .N j c v k, u, h, x, hx => by
    simp only [B.keys, List.mem_append, List.mem_cons] at hx
    rcases hx with hx | rfl | hx
    · exact Sub.keyU hU hlen h.2.2.1 x hx
    · have h1 := h.1
      unfold T.has at h1
      refine ⟨?_, by unfold I; simp only; omega⟩
      have h2 := h.2.1
      unfold T.nd at h2
      have hm : t.ns.getD j.toNat nE ∈ t.ns := by simp [List.getD, show j.toNat < t.ns.length by omega]
      have := hU _ hm
      rw [h2] at this
      exact this
    · exact Sub.keyU hU hlen h.2.2.2 x hx
theorem nodup_le : (n : Nat) → {l : List Int} → l.Nodup → (∀ i ∈ l, 0 ≤ i ∧ i < n) → l.length ≤ n
  | 0, l, _, hm => by
    cases l with
    | nil => exact Nat.le_refl _
    | cons a l => have := hm a (by simp); omega
  | n + 1, l, h, hm => by
    by_cases hn : (n : Int) ∈ l
    · have h1 := nodup_le n (l := l.erase n) (h.erase _) (fun i hi => by
        have h2 := (h.mem_erase_iff).1 hi
        have h3 := hm i h2.2
        have h4 := h2.1
        omega)
      rw [List.length_erase_of_mem hn] at h1
      omega
    · have h1 := nodup_le n (l := l) h (fun i hi => by
        have h3 := hm i hi
        have h4 : i ≠ n := fun e => hn (e ▸ hi)
        omega)
      omega
theorem Whole.size {t : T} {b : B} (h : Whole t b) : b.keys.length ≤ 64 := by
  rw [← B.ids_len]
  exact Nat.le_trans (nodup_le t.ns.length h.nod (fun i hi => (h.sub.has i hi).1)) h.len
end Tr
end Go.Proofs.Ytgjacmkedgbneaa

namespace Go.Proofs.Ytgjacmkedgbneaa
namespace Tr
open Wd Tn Ky

/-- As Sub, whatever In says. -/
def Subm (t : T) : B → Int → Prop
  | .L, _ => True
  | .N i c v k, u => t.has i ∧ (∃ b, t.nd i = ⟨b, c, v, (k false).rid, (k true).rid, u⟩) ∧ Subm t (k false) i ∧ Subm t (k true) i
theorem Subm.has {t : T} : {b : B} → {u : Int} → Subm t b u → ∀ i ∈ b.ids, t.has i
  | .L, _, _, i, hi => by cases hi
  | .N j c v k, u, h, i, hi => by
    simp only [B.ids, List.mem_append, List.mem_cons] at hi
    rcases hi with hi | rfl | hi
    · exact Subm.has h.2.2.1 i hi
    · exact h.1
    · exact Subm.has h.2.2.2 i hi
theorem Sub.subm {t : T} : {b : B} → {u : Int} → Sub t b u → Subm t b u
  | .L, _, _ => trivial
  | .N _ _ _ _, _, h => ⟨h.1, ⟨_, h.2.1⟩, Sub.subm h.2.2.1, Sub.subm h.2.2.2⟩
theorem Subm.sub {t : T} : {b : B} → {u : Int} → Subm t b u → (∀ i ∈ b.ids, (t.nd i).inn = true) → Sub t b u
  | .L, _, _, _ => trivial
  | .N j c v k, u, h, hi => by
    simp only [B.ids, List.mem_append, List.mem_cons] at hi
    obtain ⟨x, hx⟩ := h.2.1
    have : x = true := by have := hi j (.inr (.inl rfl)); rw [hx] at this; exact this
    subst this
    exact ⟨h.1, hx, Subm.sub h.2.2.1 (fun i h' => hi i (.inl h')), Subm.sub h.2.2.2 (fun i h' => hi i (.inr (.inr h')))⟩
/-- What is met behind b. -/
def Behind (met met' : List Bool) (b : B) : Prop := ∀ k : Nat, met'.getD k false = (met.getD k false || decide ((k : Int) ∈ b.ids))
theorem getD_set (met : List Bool) (x k : Nat) (hx : x < met.length) : (met.set x true).getD k false = if k = x then true else met.getD k false := by
  by_cases h : k = x
  · subst h; simp [List.getD, hx]
  · simp [List.getD, h, show ¬ x = k from fun e => h e.symm]
/-- All that is met is a tree as one. -/
theorem meet_tree (t : T) (n : Nat) : ∀ (x u : Int) (met met' : List Bool), t.ns.length ≤ met.length → meetF t n x u met = (true, met') →
    ∃ b : B, b.rid = x ∧ Subm t b u ∧ b.ids.Nodup ∧ (∀ i ∈ b.ids, met.getD i.toNat false = false) ∧ Behind met met' b := by
  have leaf : ∀ (u : Int) (met : List Bool), ∃ b : B, b.rid = -1 ∧ Subm t b u ∧ b.ids.Nodup ∧ (∀ i ∈ b.ids, met.getD i.toNat false = false) ∧ Behind met met b := fun u met =>
    ⟨.L, rfl, trivial, List.nodup_nil, fun i hi => (by cases hi), fun k => by simp [B.ids]⟩
  induction n with
  | zero =>
    intro x u met met' hl h
    simp only [meetF, Prod.mk.injEq, decide_eq_true_eq] at h
    obtain ⟨rfl, rfl⟩ := h
    exact leaf u met
  | succ n ih =>
    intro x u met met' hl h
    unfold meetF at h
    split at h
    · rename_i hx
      subst hx
      obtain ⟨-, rfl⟩ := Prod.mk.inj h
      exact leaf u met
    · rename_i hx
      split at h
      · rename_i hg
        obtain ⟨hh, hm, hu⟩ := hg
        have hxl : x.toNat < met.length := by unfold T.has at hh; omega
        split at h
        · rename_i hok
          have e1 : meetF t n (t.kid x false) x (met.set x.toNat true) = (true, (meetF t n (t.kid x false) x (met.set x.toNat true)).2) := Prod.ext hok rfl
          obtain ⟨b1, r1, s1, d1, f1, m1⟩ := ih _ _ _ _ (by rw [List.length_set]; exact hl) e1
          obtain ⟨b2, r2, s2, d2, f2, m2⟩ := ih _ _ _ _ (by rw [meetF_len, List.length_set]; exact hl) h
          have g1 : ∀ i ∈ b1.ids, 0 ≤ i ∧ i ≠ x ∧ met.getD i.toNat false = false := fun i hi => by
            have h1 := f1 i hi
            rw [getD_set _ _ _ hxl] at h1
            have h2 := s1.has i hi
            unfold T.has at h2 hh
            split at h1
            · cases h1
            · exact ⟨h2.1, by omega, h1⟩
          have g2 : ∀ i ∈ b2.ids, 0 ≤ i ∧ i ≠ x ∧ i ∉ b1.ids ∧ met.getD i.toNat false = false := fun i hi => by
            have h1 := f2 i hi
            rw [m1, getD_set _ _ _ hxl, Bool.or_eq_false_iff] at h1
            have h2 := s2.has i hi
            unfold T.has at h2 hh
            obtain ⟨h3, h4⟩ := h1
            rw [show ((i.toNat : Nat) : Int) = i by omega] at h4
            split at h3
            · cases h3
            · exact ⟨h2.1, by omega, by simpa using h4, h3⟩
          refine ⟨.N x (t.nd x).red (t.nd x).v (fun s => if s then b2 else b1), rfl, ⟨hh, ⟨(t.nd x).inn, ?_⟩, s1, s2⟩, ?_, ?_, ?_⟩
          · simp only [r1, r2, if_true, if_false, Bool.false_eq_true]
            rw [← N_eq]
            exact ⟨rfl, rfl, rfl, rfl, rfl, hu⟩
          · simp only [B.ids, if_true, if_false, Bool.false_eq_true]
            rw [List.nodup_append]
            refine ⟨d1, List.nodup_cons.2 ⟨fun h' => (g2 x h').2.1 rfl, d2⟩, ?_⟩
            intro a ha c hc e
            subst e
            rcases List.mem_cons.1 hc with rfl | hc
            · exact (g1 a ha).2.1 rfl
            · exact (g2 a hc).2.2.1 ha
          · intro i hi
            simp only [B.ids, if_true, if_false, Bool.false_eq_true, List.mem_append, List.mem_cons] at hi
            rcases hi with hi | rfl | hi
            · exact (g1 i hi).2.2
            · exact hm
            · exact (g2 i hi).2.2.2
          · intro k
            rw [m2, m1, getD_set _ _ _ hxl]
            simp only [B.ids, if_true, if_false, Bool.false_eq_true, List.mem_append, List.mem_cons]
            unfold T.has at hh
            by_cases hk : k = x.toNat
            · have : (k : Int) = x := by omega
              rw [if_pos hk]
              simp [this]
            · have : ¬ (k : Int) = x := by omega
              rw [if_neg hk]
              by_cases h1 : (k : Int) ∈ b1.ids <;> by_cases h2 : (k : Int) ∈ b2.ids <;> simp [h1, h2, this]
        · cases (Prod.mk.inj h).1
      · cases (Prod.mk.inj h).1
/-- A tree as one is met whole. -/
theorem tree_meet (t : T) : (b : B) → ∀ (u : Int) (n : Nat) (met : List Bool), t.ns.length ≤ met.length → Subm t b u → b.ids.Nodup → (∀ i ∈ b.ids, met.getD i.toNat false = false) → b.ids.length ≤ n →
    ∃ met', meetF t n b.rid u met = (true, met') ∧ Behind met met' b
  | .L, u, n, met, hl, hs, hd, hf, hn => by
    refine ⟨met, ?_, fun k => by simp [B.ids]⟩
    cases n with
    | zero => rfl
    | succ n => simp [meetF, B.rid]
  | .N i c v k, u, n, met, hl, hs, hd, hf, hn => by
    simp only [B.ids, List.length_append, List.length_cons] at hn
    obtain ⟨n, rfl⟩ : ∃ m, n = m + 1 := ⟨n - 1, by omega⟩
    obtain ⟨hi, ⟨x, hx⟩, s1, s2⟩ := hs
    simp only [B.ids] at hd
    rw [List.nodup_append] at hd
    obtain ⟨d1, d2, d3⟩ := hd
    obtain ⟨d4, d5⟩ := List.nodup_cons.1 d2
    simp only [B.ids, List.mem_append, List.mem_cons] at hf
    have hxl : i.toNat < met.length := by unfold T.has at hi; omega
    have hne1 : ∀ j ∈ (k false).ids, j ≠ i := fun j hj e => d3 j hj i (by simp) e
    have hne2 : ∀ j ∈ (k true).ids, j ≠ i := fun j hj e => d4 (e ▸ hj)
    have nn : ∀ (s : Bool) j, j ∈ (k s).ids → 0 ≤ j := fun s j hj => by
      cases s
      · exact (s1.has j hj).1
      · exact (s2.has j hj).1
    obtain ⟨m1, e1, b1⟩ := tree_meet t (k false) i n (met.set i.toNat true) (by rw [List.length_set]; exact hl) s1 d1 (fun j hj => by
      rw [getD_set _ _ _ hxl, if_neg (by have := nn false j hj; have := hne1 j hj; unfold T.has at hi; omega)]
      exact hf j (.inl hj)) (by omega)
    have hl1 : t.ns.length ≤ m1.length := by
      have := meetF_len t n (k false).rid i (met.set i.toNat true)
      rw [e1, List.length_set] at this
      simp only at this
      omega
    obtain ⟨m2, e2, b2⟩ := tree_meet t (k true) i n m1 hl1 s2 d5 (fun j hj => by
      rw [b1, getD_set _ _ _ hxl, if_neg (by have := nn true j hj; have := hne2 j hj; unfold T.has at hi; omega), hf j (.inr (.inr hj))]
      have hj0 := nn true j hj
      rw [show ((j.toNat : Nat) : Int) = j by omega]
      have : j ∉ (k false).ids := fun h => d3 j h j (List.mem_cons_of_mem _ hj) rfl
      simp [this]) (by omega)
    refine ⟨m2, ?_, ?_⟩
    · unfold meetF
      have hi1 : i ≠ -1 := by unfold T.has at hi; omega
      rw [B.rid, if_neg hi1, if_pos ⟨hi, hf i (.inr (.inl rfl)), by unfold T.up; rw [hx]⟩]
      have k1 : t.kid i false = (k false).rid := by unfold T.kid N.kid; rw [hx]; rfl
      have k2 : t.kid i true = (k true).rid := by unfold T.kid N.kid; rw [hx]; rfl
      rw [k1, k2, e1]
      simp only [if_true]
      exact e2
    · intro q
      rw [b2, b1, getD_set _ _ _ hxl]
      simp only [B.ids, List.mem_append, List.mem_cons]
      unfold T.has at hi
      by_cases hk : q = i.toNat
      · have : (q : Int) = i := by omega
        rw [if_pos hk]
        simp [this]
      · have : ¬ (q : Int) = i := by omega
        rw [if_neg hk]
        by_cases h1 : (q : Int) ∈ (k false).ids <;> by_cases h2 : (q : Int) ∈ (k true).ids <;> simp [h1, h2, this]
/-- A tree is whole just if it is one. -/
theorem whole_iff (t : T) : wholeP t ↔ ∃ b, Whole t b := by
  constructor
  · rintro ⟨hl, hok, hall⟩
    have e1 : meetF t 64 t.root (-1) (List.replicate 64 false) = (true, (meetF t 64 t.root (-1) (List.replicate 64 false)).2) := Prod.ext hok rfl
    obtain ⟨b, hr, hs, hd, -, hm⟩ := meet_tree t 64 _ _ _ _ (by rw [List.length_replicate]; exact hl) e1
    have hin : ∀ i, t.has i → okN t (meetF t 64 t.root (-1) (List.replicate 64 false)).2 i.toNat := fun i hi => hall i.toNat (by unfold T.has at hi; omega)
    have key : ∀ i, t.has i → ((t.nd i).inn = decide (i ∈ b.ids)) ∧ ((t.nd i).inn = true ∨ t.nd i = nE) := fun i hi => by
      obtain ⟨h1, h2⟩ := hin i hi
      have e : ((i.toNat : Nat) : Int) = i := by unfold T.has at hi; omega
      rw [hm, e] at h1
      rw [e] at h2
      have hz : (List.replicate 64 false).getD i.toNat false = false := by
        rw [List.getD, List.getElem?_replicate]
        split <;> rfl
      rw [hz, Bool.false_or] at h1
      exact ⟨h1, h2⟩
    refine ⟨b, hl, hr.symm, hs.sub (fun i hi => ?_), hd, fun i hi hn => ?_⟩
    · rw [(key i (hs.has i hi)).1]; simpa using hi
    · rcases (key i hi).2 with h | h
      · rw [(key i hi).1] at h; exact absurd (by simpa using h) hn
      · exact h
  · rintro ⟨b, h⟩
    have hz : ∀ k : Nat, (List.replicate 64 false).getD k false = false := fun k => by
      rw [List.getD, List.getElem?_replicate]
      split <;> rfl
    obtain ⟨met', e, hm⟩ := tree_meet t b (-1) 64 (List.replicate 64 false) (by rw [List.length_replicate]; exact h.len) h.sub.subm h.nod (fun i _ => hz _) (by rw [B.ids_len]; exact h.size)
    rw [← h.root] at e
    refine ⟨h.len, by rw [e], fun i hi => ?_⟩
    rw [e]
    have hh : t.has i := by unfold T.has; omega
    unfold okN
    simp only
    rw [hm, hz, Bool.false_or]
    by_cases hin : (i : Int) ∈ b.ids
    · rw [(h.sub.has _ hin).2]
      exact ⟨by simpa using hin, .inl rfl⟩
    · rw [h.rest i hh hin]
      exact ⟨by simp [hin, nE], .inr rfl⟩
end Tr
end Go.Proofs.Ytgjacmkedgbneaa

namespace Go.Proofs.Ytgjacmkedgbneaa
namespace Tr
open Wd Tn Ky

theorem Sub.unique {t : T} : {b b' : B} → {u u' : Int} → Sub t b u → Sub t b' u' → b.rid = b'.rid → b = b'
  | .L, .L, _, _, _, _, _ => rfl
  | .L, .N i c v k, _, _, _, h, e => by have := h.1; unfold T.has at this; simp only [B.rid] at e; omega
  | .N i c v k, .L, _, _, h, _, e => by have := h.1; unfold T.has at this; simp only [B.rid] at e; omega
  | .N i c v k, .N i' c' v' k', u, u', h, h', e => by
    simp only [B.rid] at e
    subst e
    have e2 := h.2.1.symm.trans h'.2.1
    rw [← N_eq] at e2
    obtain ⟨-, rfl, rfl, e3, e4, -⟩ := e2
    have h1 := Sub.unique h.2.2.1 h'.2.2.1 e3
    have h2 := Sub.unique h.2.2.2 h'.2.2.2 e4
    congr 1
    funext s
    cases s
    · exact h1
    · exact h2
theorem Whole.unique {t : T} {b b' : B} (h : Whole t b) (h' : Whole t b') : b = b' := h.sub.unique h'.sub (h.root.symm.trans h'.root)
/-- Right, by m. -/
def RightB (m : Int) (b : B) : Prop := b.isRed = false ∧ okK m b.keys ∧ b.plain.2 = true
instance (m : Int) (b : B) : Decidable (RightB m b) := by unfold RightB; infer_instance
def RightP (m : Int) (t : T) : Prop := ∃ b, Whole t b ∧ RightB m b
theorem rightP_iff {m : Int} {t : T} {b : B} (h : Whole t b) : RightP m t ↔ RightB m b :=
  ⟨fun ⟨b', h', hr⟩ => by rw [h.unique h']; exact hr, fun hr => ⟨b, h, hr⟩⟩
end Tr
end Go.Proofs.Ytgjacmkedgbneaa
