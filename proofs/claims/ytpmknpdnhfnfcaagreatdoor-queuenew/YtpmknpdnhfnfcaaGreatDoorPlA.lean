/-
  Plain facts on numbers of 64 and of 128 bits (nothing of the program is imported here): what Mul, Add, Div, Scale of layer 1 reckon, step by step, and what that comes to.
  Plain facts on virtual times that go round (nothing of the program is imported here): what layer 3 reckons, as numbers.
  Plain facts on keys (nothing of the program is imported here): what layer 8 tells, as functions of lists of pairs of numbers.
  Plain facts on trees (nothing of the program is imported here): nodes, trees as lists of nodes, and what is done to them, as functions.
  Plain facts on trees: the way down to where a key is to stand; what removing and filling make of a tree.
  Plain facts on trees: what removing a node makes of a tree.
  Plain facts on trees: what is met from a node on.
  Plain facts on trees: a tree as one (what is left and right of each node), and that nodes are just that.
  Plain facts on trees: what is met is a tree as one; a tree is whole just if its nodes are one.
  Plain facts on trees: a tree is one in one way; right trees.
  Plain facts on trees: a tree seen from one of its places; what is painted, hung and turned there.
  Plain facts on trees: painting and turning at a place; a node that comes.
  Plain facts on trees: colors; a right tree is mended to a right one, with the same keys.
  Plain facts on trees: mending comes to a right tree.
  Plain facts on trees: what Insert tells of a right tree is right, with one key more.
  Plain facts on trees: filling a place comes to a right tree.
  Plain facts on trees: a node is taken out; what Delete tells of a right tree is right, with one key less.
  Plain facts on trees: what Delete tells of a right tree is right, with one key less.
  Plain facts behind the laws of layer 1: a product divided, turned, parted; what is left over; scaling.
  The weights as plain numbers: what Of, Nice, Delta, Sum and Share answer, and the plain facts behind stage 2's laws. No condition.
  Plain facts on queues: what layer 12 tells, as functions of, and relations between, trees, numbers and lists.
-/
import Derived.Laws.Bits64b
import Derived.Laws.BitsLemmas
namespace Go.Proofs.YtpmknpdnhfnfcaaGreatDoor
namespace Wd

/-- 2^64, under a name of its own. -/
def M : Int := 18446744073709551616
/-- n is a number of 64 bits. -/
def U (n : Int) : Prop := 0 ≤ n ∧ n < M

theorem U_zero : U 0 := by unfold U M; omega
theorem U_one : U 1 := by unfold U M; omega
theorem wrapM (n : Int) : IntKind.u64.wrap n = n % M := IntKind.wrap_u64 n
theorem U_wrap (n : Int) : U (IntKind.u64.wrap n) := by rw [wrapM]; unfold U M; omega
theorem wrap_U {n : Int} (h : U n) : IntKind.u64.wrap n = n := by rw [wrapM]; unfold U M at *; omega

/-! ### the steps, as the Go text takes them -/
def addL (b c : Int) : Int := IntKind.u64.wrap (b + c)
def addH (a b c : Int) : Int := if IntKind.u64.wrap (b + c) < b then IntKind.u64.wrap (a + 1) else a
def dblH (h l : Int) : Int := bits .or .u64 (IntKind.u64.wrap (h * 2)) (l / 9223372036854775808)
def dblL (l : Int) : Int := IntKind.u64.wrap (l * 2)

theorem U_addL (b c : Int) : U (addL b c) := U_wrap _
theorem U_addH (a b c : Int) (h : U a) : U (addH a b c) := by unfold addH; split; exact U_wrap _; exact h
theorem U_dblL (l : Int) : U (dblL l) := U_wrap _

/-- 'Add', as a number. -/
theorem add_spec (a b c : Int) (ha : U a) (hb : U b) (hc : U c) : addH a b c * M + addL b c = (a * M + b + c) % (M * M) := by
  unfold addH addL; simp only [wrapM]
  have e : (a * M + b + c) % (M * M) = (a * M + b + c) % 340282366920938463463374607431768211456 := by unfold M; rfl
  rw [e]
  unfold U M at *
  split <;> omega

/-- .. with no wrap. -/
theorem add_small (a b c : Int) (ha : U a) (hb : U b) (hc : U c) (X : Int) (hX : X = a * M + b) (hs : X + c < M * M) : addH a b c = (X + c) / M ∧ addL b c = (X + c) % M := by
  have e : M * M = 340282366920938463463374607431768211456 := by unfold M; rfl
  rw [e] at hs
  unfold addH addL; simp only [wrapM]
  unfold U M at *
  subst hX
  split <;> omega

theorem or_even (x y : Int) (hx : U x) (he : x % 2 = 0) (hy : 0 ≤ y ∧ y < 2) : bits .or .u64 x y = x + y := by
  refine bits_join .u64 64 (by decide) (fun n h0 h1 => ?_) 1 x y hx.1 (by simpa using he) ?_ hy.1 ?_ ?_
  · rw [IntKind.wrap_u64]; omega
  · have := hx.2; unfold M at this; omega
  · simpa using hy.2
  · omega
theorem and_one (x : Int) (hx : U x) : bits .and .u64 x 1 = x % 2 := by
  have := bits_mask .u64 64 (by decide) (fun n h0 h1 => by rw [IntKind.wrap_u64]; omega) 1 (by omega) x hx.1 (by have := hx.2; unfold M at this; omega)
  simpa using this

/-- 'double', as a number, with no wrap. -/
theorem dbl_small (h l : Int) (hh : U h) (hl : U l) (X : Int) (hX : X = h * M + l) (hs : 2 * X < M * M) : dblH h l = 2 * X / M ∧ dblL l = 2 * X % M := by
  have e : M * M = 340282366920938463463374607431768211456 := by unfold M; rfl
  rw [e] at hs
  have hb : 0 ≤ l / 9223372036854775808 ∧ l / 9223372036854775808 < 2 := by unfold U M at *; omega
  have hw : IntKind.u64.wrap (h * 2) = h * 2 := by rw [wrapM]; unfold U M at *; omega
  unfold dblH dblL
  rw [or_even _ _ (U_wrap _) (by rw [hw]; omega) hb, hw, wrapM]
  unfold U M at *
  subst hX
  omega

/-! ### bits, the highest one first -/
def b2i (b : Bool) : Int := if b then 1 else 0
theorem b2i_bound (b : Bool) : 0 ≤ b2i b ∧ b2i b ≤ 1 := by cases b <;> simp [b2i]
/-- bit i of n, from above. -/
def bitAt (n : Int) (i : Nat) : Bool := n / 2 ^ (63 - i) % 2 == 1
def bitsUpto (n : Int) (k : Nat) : List Bool := (List.range k).map (bitAt n)
theorem bitsUpto_zero (n : Int) : bitsUpto n 0 = [] := rfl
theorem bitsUpto_succ (n : Int) (k : Nat) : bitsUpto n (k + 1) = bitsUpto n k ++ [bitAt n k] := by simp [bitsUpto, List.range_succ]
theorem bitsUpto_length (n : Int) (k : Nat) : (bitsUpto n k).length = k := by simp [bitsUpto]
theorem b2i_bitAt (n : Int) (i : Nat) : b2i (bitAt n i) = n / 2 ^ (63 - i) % 2 := by
  unfold b2i bitAt
  by_cases h : n / 2 ^ (63 - i) % 2 = 1
  · simp [h]
  · have : n / 2 ^ (63 - i) % 2 = 0 := by omega
    simp [this]

/-- the number of a row of bits. -/
def val (l : List Bool) : Int := l.foldl (fun v b => 2 * v + b2i b) 0
theorem val_nil : val [] = 0 := rfl
theorem val_snoc (l : List Bool) (b : Bool) : val (l ++ [b]) = 2 * val l + b2i b := by simp [val]
theorem val_from (l : List Bool) : ∀ v : Int, 0 ≤ v → 0 ≤ l.foldl (fun v b => 2 * v + b2i b) v ∧ l.foldl (fun v b => 2 * v + b2i b) v + 1 ≤ (v + 1) * 2 ^ l.length := by
  induction l with
  | nil => intro v hv; simp; omega
  | cons b l ih =>
    intro v hv
    have hb := b2i_bound b
    have h := ih (2 * v + b2i b) (by omega)
    have e : (v + 1) * 2 ^ (b :: l).length = (2 * v + 2) * 2 ^ l.length := by
      rw [List.length_cons, Int.pow_succ, Int.mul_comm (2 ^ l.length) 2, ← Int.mul_assoc]; congr 1; omega
    rw [e, List.foldl_cons]
    refine ⟨h.1, Int.le_trans h.2 (Int.mul_le_mul_of_nonneg_right (by omega) (Int.le_of_lt (Int.pow_pos (by omega))))⟩
theorem val_bound (l : List Bool) : 0 ≤ val l ∧ val l < 2 ^ l.length := by
  have := val_from l 0 (by omega)
  unfold val; omega

/-- what has come of n behind k bits. -/
theorem val_upto (n : Int) (h : U n) (k : Nat) (hk : k ≤ 64) : val (bitsUpto n k) = n / 2 ^ (64 - k) := by
  induction k with
  | zero => rw [bitsUpto_zero, val_nil]; unfold U M at h; simp; omega
  | succ k ih =>
    rw [bitsUpto_succ, val_snoc, ih (by omega), b2i_bitAt]
    have e : (2 : Int) ^ (64 - k) = 2 ^ (63 - k) * 2 := by rw [← Int.pow_succ]; congr 1; omega
    have e2 : 64 - (k + 1) = 63 - k := by omega
    rw [e, e2, ← Int.ediv_ediv_of_nonneg (Int.le_of_lt (Int.pow_pos (by omega)))]
    omega
theorem val_all (n : Int) (h : U n) : val (bitsUpto n 64) = n := by rw [val_upto n h 64 (by omega)]; simp

theorem pow_le {i j : Nat} (h : i ≤ j) : (2 : Int) ^ i ≤ 2 ^ j := by
  have := Nat.pow_le_pow_right (n := 2) (by omega) h
  exact_mod_cast this

/-! ### 'Mul' -/
def mulH (a b : Int) : Int := a * b / M
def mulL (a b : Int) : Int := a * b % M
/-- one round of Mul. -/
def mulStep (a : Int) (s : Int × Int) (b : Bool) : Int × Int :=
  if b then (addH (dblH s.1 s.2) (dblL s.2) a, addL (dblL s.2) a) else (dblH s.1 s.2, dblL s.2)
def mulSt (a : Int) (l : List Bool) : Int × Int := l.foldl (mulStep a) (0, 0)
theorem mulSt_nil (a : Int) : mulSt a [] = (0, 0) := rfl
theorem mulSt_snoc (a : Int) (l : List Bool) (b : Bool) : mulSt a (l ++ [b]) = mulStep a (mulSt a l) b := by simp [mulSt]

theorem prod_bound (a v : Int) (ha : U a) (hv : U v) : 0 ≤ a * v ∧ a * v + M + M ≤ M * M + 1 := by
  have h1 := Int.mul_nonneg ha.1 hv.1
  have h2 : a * v ≤ (M - 1) * (M - 1) := Int.mul_le_mul (by have := ha.2; omega) (by have := hv.2; omega) hv.1 (by have := ha.1; have := ha.2; omega)
  have e : (M - 1) * (M - 1) = M * M - M - M + 1 := by unfold M; rfl
  omega
theorem U_mulL (a b : Int) : U (mulL a b) := by unfold mulL U M; omega
theorem U_mulH (a b : Int) (ha : U a) (hb : U b) : U (mulH a b) := by
  have h := prod_bound a b ha hb
  have e : M * M = 340282366920938463463374607431768211456 := by unfold M; rfl
  rw [e] at h
  unfold mulH
  generalize a * b = X at *
  unfold U M at *
  omega

theorem mulSt_eq (a : Int) (ha : U a) : ∀ (k : Nat) (l : List Bool), l.length = k → k ≤ 64 → mulSt a l = (a * val l / M, a * val l % M) := by
  intro k
  induction k with
  | zero => intro l hl _; obtain rfl := List.length_eq_zero_iff.1 hl; simp [mulSt, val]
  | succ k ih =>
    intro l hl hk
    obtain ⟨l', b, rfl⟩ : ∃ l' b, l = l' ++ [b] := ⟨l.dropLast, l.getLast (by intro e; simp [e] at hl), (List.dropLast_concat_getLast _).symm⟩
    have hl' : l'.length = k := by simpa using hl
    have hv := val_bound l'
    have hvs := val_bound (l' ++ [b])
    have hp : (2 : Int) ^ (l' ++ [b]).length ≤ 2 ^ 64 := pow_le (by simp; omega)
    have hU : U (val (l' ++ [b])) := ⟨hvs.1, by have : (2 : Int) ^ 64 = M := rfl; omega⟩
    have hU' : U (val l') := by rw [val_snoc] at hU; have := b2i_bound b; unfold U at *; omega
    have pb := prod_bound a _ ha hU
    have pb' := prod_bound a _ ha hU'
    rw [mulSt_snoc, ih l' hl' (by omega)]
    rw [val_snoc] at pb ⊢
    have hx : a * (2 * val l' + b2i b) = 2 * (a * val l') + a * b2i b := by rw [Int.mul_add, ← Int.mul_assoc, Int.mul_comm a 2, Int.mul_assoc]
    rw [hx] at pb ⊢
    have e : M * M = 340282366920938463463374607431768211456 := by unfold M; rfl
    have hXU : U (a * val l' / M) ∧ U (a * val l' % M) := ⟨U_mulH a (val l') ha hU', U_mulL a (val l')⟩
    have hXe : a * val l' = a * val l' / M * M + a * val l' % M := by rw [Int.mul_comm _ M]; exact (Int.mul_ediv_add_emod _ _).symm
    generalize a * val l' = X at *
    have habound : 0 ≤ a * b2i b := Int.mul_nonneg ha.1 (b2i_bound b).1
    have hMpos : 0 < M := by unfold M; omega
    obtain ⟨d1, d2⟩ := dbl_small (X / M) (X % M) hXU.1 hXU.2 X hXe (by omega)
    unfold mulStep
    rw [d1, d2]
    cases b with
    | false => simp [b2i]
    | true =>
      have hb1 : a * b2i true = a := by simp [b2i]
      rw [hb1] at pb ⊢
      have hDU : U (2 * X / M) ∧ U (2 * X % M) := by
        have := ha.1
        constructor
        · unfold U; exact ⟨Int.ediv_nonneg (by omega) (by omega), Int.ediv_lt_of_lt_mul hMpos (by omega)⟩
        · exact ⟨Int.emod_nonneg _ (by omega), Int.emod_lt_of_pos _ hMpos⟩
      obtain ⟨s1, s2⟩ := add_small (2 * X / M) (2 * X % M) a hDU.1 hDU.2 ha (2 * X) (by rw [Int.mul_comm _ M]; exact (Int.mul_ediv_add_emod _ _).symm) (by omega)
      simp [s1, s2]
theorem mulSt_all (a b : Int) (ha : U a) (hb : U b) : mulSt a (bitsUpto b 64) = (mulH a b, mulL a b) := by
  rw [mulSt_eq a ha 64 _ (bitsUpto_length b 64) (by omega), val_all b hb]; rfl

/-! ### 'Div' -/
def divQ (h l by' : Int) : Int := (h * M + l) / by'
def divR (h l by' : Int) : Int := (h * M + l) % by'
/-- the remainder's next value, ahead of the test. -/
def divR1 (r : Int) (b : Bool) : Int := bits .or .u64 (IntKind.u64.wrap (r * 2)) (b2i b)
def divQ1 (q : Int) : Int := IntKind.u64.wrap (q * 2)
def divQ2 (q : Int) : Int := bits .or .u64 (IntKind.u64.wrap (q * 2)) 1
def divR2 (r by' : Int) (b : Bool) : Int := IntKind.u64.wrap (divR1 r b - by')
/-- one round of Div: what is left over, and how often. -/
def divStep (by' : Int) (s : Int × Int) (b : Bool) : Int × Int :=
  if s.1 / 9223372036854775808 = 1 ∨ by' ≤ divR1 s.1 b then (divR2 s.1 by' b, divQ2 s.2) else (divR1 s.1 b, divQ1 s.2)
def divSt (h by' : Int) (l : List Bool) : Int × Int := l.foldl (divStep by') (h, 0)
theorem divSt_nil (h by' : Int) : divSt h by' [] = (h, 0) := rfl
theorem divSt_snoc (h by' : Int) (l : List Bool) (b : Bool) : divSt h by' (l ++ [b]) = divStep by' (divSt h by' l) b := by simp [divSt]

theorem divR1_eq (r : Int) (b : Bool) : divR1 r b = r * 2 % M + b2i b := by
  have hb := b2i_bound b
  unfold divR1
  rw [or_even _ _ (U_wrap _) (by rw [wrapM]; unfold M; omega) (by omega), wrapM]
theorem divQ2_eq (q : Int) : divQ2 q = q * 2 % M + 1 := by
  unfold divQ2
  rw [or_even _ _ (U_wrap _) (by rw [wrapM]; unfold M; omega) (by omega), wrapM]
theorem U_divR1 (r : Int) (b : Bool) : U (divR1 r b) := by
  rw [divR1_eq]; have := b2i_bound b; unfold U M; omega
theorem U_divQ2 (q : Int) : U (divQ2 q) := by
  rw [divQ2_eq]; unfold U M; omega

theorem div_unique {n d q r : Int} (h : n = d * q + r) (h0 : 0 ≤ r) (h1 : r < d) : n / d = q ∧ n % d = r := by
  have hq : n / d = q := by
    rw [h, Int.add_comm, Int.add_mul_ediv_left _ _ (by omega), Int.ediv_eq_zero_of_lt h0 h1]; omega
  refine ⟨hq, ?_⟩
  have := Int.mul_ediv_add_emod n d
  rw [hq] at this
  omega

theorem divStep_eq (by' : Int) (hby : U by') (N : Int) (b : Bool) (hpos : 0 < by') (hq : 0 ≤ N / by') (hq2 : 2 * (N / by') + 1 < M) :
    divStep by' (N % by', N / by') b = ((2 * N + b2i b) % by', (2 * N + b2i b) / by') := by
  have hb := b2i_bound b
  have hr0 := Int.emod_nonneg N (b := by') (by omega)
  have hr1 := Int.emod_lt_of_pos N hpos
  have hN := Int.mul_ediv_add_emod N by'
  generalize N / by' = q at *
  generalize N % by' = r at *
  have hNe : 2 * N + b2i b = by' * (2 * q) + (2 * r + b2i b) := by
    rw [← hN, Int.mul_add, Int.mul_left_comm]; omega
  have hNe1 : 2 * N + b2i b = by' * (2 * q + 1) + (2 * r + b2i b - by') := by
    rw [hNe, Int.mul_add by' (2 * q) 1]; omega
  unfold divStep
  dsimp only
  by_cases hge : by' ≤ 2 * r + b2i b
  · obtain ⟨e1, e2⟩ := div_unique hNe1 (by omega) (by omega)
    rw [e1, e2, if_pos, divQ2_eq]
    · refine Prod.ext ?_ ?_
      · show divR2 r by' b = _
        unfold divR2; rw [wrapM, divR1_eq]; unfold U M at *; omega
      · show q * 2 % M + 1 = _
        unfold M at *; omega
    · rw [divR1_eq]; unfold U M at *; omega
  · obtain ⟨e1, e2⟩ := div_unique hNe (by omega) (by omega)
    rw [e1, e2, if_neg]
    · refine Prod.ext ?_ ?_
      · show divR1 r b = _
        rw [divR1_eq]; unfold U M at *; omega
      · show divQ1 q = _
        unfold divQ1; rw [wrapM]; unfold M at *; omega
    · rw [divR1_eq]; unfold U M at *; omega

theorem divSt_eq (h by' : Int) (hh : U h) (hby : U by') (hlt : h < by') : ∀ (k : Nat) (l : List Bool), l.length = k → k ≤ 64 →
    divSt h by' l = ((h * 2 ^ k + val l) % by', (h * 2 ^ k + val l) / by') := by
  intro k
  have hpos : 0 < by' := by have := hh.1; omega
  induction k with
  | zero =>
    intro l hl _
    obtain rfl := List.length_eq_zero_iff.1 hl
    have := hh.1
    simp [divSt, val, Int.emod_eq_of_lt hh.1 hlt, Int.ediv_eq_zero_of_lt hh.1 hlt]
  | succ k ih =>
    intro l hl hk
    obtain ⟨l', b, rfl⟩ : ∃ l' b, l = l' ++ [b] := ⟨l.dropLast, l.getLast (by intro e; simp [e] at hl), (List.dropLast_concat_getLast _).symm⟩
    have hl' : l'.length = k := by simpa using hl
    have hv := val_bound l'
    rw [hl'] at hv
    rw [divSt_snoc, ih l' hl' (by omega), val_snoc]
    have hp : (0 : Int) < 2 ^ k := Int.pow_pos (by omega)
    have hp2 : (2 : Int) * 2 ^ k ≤ M := by
      have : (2 : Int) ^ (k + 1) ≤ 2 ^ 64 := pow_le (by omega)
      rw [Int.pow_succ] at this
      have e : (2 : Int) ^ 64 = M := rfl
      omega
    have hx : h * 2 ^ (k + 1) + (2 * val l' + b2i b) = 2 * (h * 2 ^ k + val l') + b2i b := by
      rw [Int.pow_succ, ← Int.mul_assoc]; omega
    have hn0 : 0 ≤ h * 2 ^ k := Int.mul_nonneg hh.1 (Int.le_of_lt hp)
    have hlt2 : h * 2 ^ k + val l' < 2 ^ k * by' := by
      have h1 : (h + 1) * 2 ^ k ≤ by' * 2 ^ k := Int.mul_le_mul_of_nonneg_right (by omega) (Int.le_of_lt hp)
      rw [Int.add_mul, Int.one_mul, Int.mul_comm by'] at h1
      omega
    have hq := Int.ediv_lt_of_lt_mul hpos hlt2
    rw [hx, divStep_eq by' hby _ b hpos (Int.ediv_nonneg (by omega) (by omega)) (by omega)]
theorem divSt_all (h l by' : Int) (hh : U h) (hl : U l) (hby : U by') (hlt : h < by') : divSt h by' (bitsUpto l 64) = (divR h l by', divQ h l by') := by
  rw [divSt_eq h by' hh hby hlt 64 _ (bitsUpto_length l 64) (by omega), val_all l hl]; rfl

/-- what Div tells: how often, what is left over, whether. -/
def divOk (h by' : Int) : Bool := !(by' == 0) && decide (h < by')
def divQq (h l by' : Int) : Int := if divOk h by' then divQ h l by' else 0
def divRr (h l by' : Int) : Int := if divOk h by' then divR h l by' else 0
theorem U_divQq (h l by' : Int) (hh : U h) (hl : U l) : U (divQq h l by') := by
  unfold divQq
  by_cases hk : divOk h by' = true
  · rw [if_pos hk]
    simp [divOk] at hk
    have := hh.1
    unfold divQ
    refine ⟨Int.ediv_nonneg ?_ (by omega), Int.ediv_lt_of_lt_mul (by omega) ?_⟩
    · have := Int.mul_nonneg hh.1 (show (0 : Int) ≤ M by unfold M; omega)
      have := hl.1
      omega
    · have h1 : (h + 1) * M ≤ by' * M := Int.mul_le_mul_of_nonneg_right (by omega) (by unfold M; omega)
      rw [Int.add_mul, Int.one_mul, Int.mul_comm by'] at h1
      have := hl.2
      omega
  · rw [if_neg hk]; exact U_zero
theorem U_divRr (h l by' : Int) (hby : U by') : U (divRr h l by') := by
  unfold divRr
  by_cases hk : divOk h by' = true
  · rw [if_pos hk]
    simp [divOk] at hk
    unfold divR
    have := Int.emod_nonneg (h * M + l) (b := by') (by omega)
    have := Int.emod_lt_of_pos (h * M + l) (b := by') (by have := hby.1; omega)
    unfold U at *
    omega
  · rw [if_neg hk]; exact U_zero

/-! ### 'Scale' -/
def scl (a b by' : Int) : Int := if divOk (mulH a b) by' then divQ (mulH a b) (mulL a b) by' else 18446744073709551615
theorem mul_parts (a b : Int) : mulH a b * M + mulL a b = a * b := by
  unfold mulH mulL; rw [Int.mul_comm _ M]; exact Int.mul_ediv_add_emod _ _

end Wd
end Go.Proofs.YtpmknpdnhfnfcaaGreatDoor

namespace Go.Proofs.YtpmknpdnhfnfcaaGreatDoor
namespace Tn
open Wd

/-- n is a number of 64 bits with a sign. -/
def I (n : Int) : Prop := -9223372036854775808 ≤ n ∧ n < 9223372036854775808
/-- MaxLag. -/
def mx : Int := 1125899906842624

def bef (a b : Int) : Bool := decide (1 ≤ (b - a) % M ∧ (b - a) % M ≤ 9223372036854775807)
def lat (a b : Int) : Int := if bef a b = true then b else a
def ear (a b : Int) : Int := if bef b a = true then b else a
def lagN (v m : Int) : Int := (v - m + 9223372036854775808) % M - 9223372036854775808
def atN (m l : Int) : Int := (m + l) % M
def clampN (n l m : Int) : Int := if n < l then l else if m < n then m else n
def stepN (v m d : Int) : Int := if d < 1 ∨ mx ≤ lagN v m then v else atN m (min mx (lagN v m + d))

theorem wrapI (n : Int) : IntKind.i64.wrap n = (n + 9223372036854775808) % M - 9223372036854775808 := IntKind.wrap_i64 n
theorem I_wrap (n : Int) : I (IntKind.i64.wrap n) := by rw [wrapI]; unfold I M; omega
theorem wrap_I {n : Int} (h : I n) : IntKind.i64.wrap n = n := by rw [wrapI]; unfold I M at *; omega
theorem I_lag (v m : Int) : I (lagN v m) := by unfold lagN I M; omega
theorem U_at (m l : Int) : U (atN m l) := by unfold atN U M; omega
theorem I_clamp {n l m : Int} (hn : I n) (hl : I l) (hm : I m) : I (clampN n l m) := by unfold clampN; split; exact hl; split; exact hm; exact hn
theorem U_step (v m d : Int) (hv : U v) : U (stepN v m d) := by unfold stepN; split; exact hv; exact U_at _ _
theorem U_lat {a b : Int} (ha : U a) (hb : U b) : U (lat a b) := by unfold lat; split; exact hb; exact ha
theorem U_ear {a b : Int} (ha : U a) (hb : U b) : U (ear a b) := by unfold ear; split; exact hb; exact ha

theorem lag_wrap (v m : Int) : IntKind.i64.wrap (IntKind.u64.wrap (v - m)) = lagN v m := by rw [wrapI, wrapM]; unfold lagN M; omega
theorem at_wrap (m l : Int) : IntKind.u64.wrap (m + IntKind.u64.wrap l) = atN m l := by rw [wrapM, wrapM]; unfold atN M; omega
theorem bef_iff (a b : Int) : bef a b = true ↔ (1 ≤ IntKind.u64.wrap (b - a) ∧ IntKind.u64.wrap (b - a) ≤ 9223372036854775807) := by rw [wrapM]; unfold bef; exact decide_eq_true_iff
theorem bef_not (a b : Int) : bef a b = false ↔ ¬ (1 ≤ IntKind.u64.wrap (b - a) ∧ IntKind.u64.wrap (b - a) ≤ 9223372036854775807) := by rw [wrapM]; unfold bef; exact decide_eq_false_iff_not

/-! ### At and Lag undo one another -/
theorem at_lag (a b : Int) (ha : U a) : atN b (lagN a b) = a := by unfold atN lagN U M at *; omega
theorem lag_at (a l : Int) (hl : I l) : lagN (atN a l) a = l := by unfold atN lagN I M at *; omega
theorem lag_more (a b c : Int) : lagN (IntKind.u64.wrap (a + c)) (IntKind.u64.wrap (b + c)) = lagN a b := by rw [wrapM, wrapM]; unfold lagN M; omega
theorem bef_more (a b c : Int) : bef (IntKind.u64.wrap (a + c)) (IntKind.u64.wrap (b + c)) = bef a b := by
  rw [wrapM, wrapM]
  have e : ((b + c) % M - (a + c) % M) % M = (b - a) % M := by unfold M; omega
  unfold bef; rw [e]
theorem bef_lag (a b : Int) : bef a b = decide (0 < lagN b a) := by
  unfold bef
  rw [decide_eq_decide]
  unfold lagN M; omega
theorem lag_neg (a b : Int) (h : lagN a b ≠ -9223372036854775808) : lagN b a = - lagN a b := by unfold lagN M at *; omega

/-! ### Of two times one is ahead -/
theorem bef_self (a : Int) : bef a a = false := by unfold bef M; rw [decide_eq_false_iff_not]; omega
theorem bef_asymm {a b : Int} (h : bef a b = true) : bef b a = false := by
  unfold bef M at *; rw [decide_eq_true_eq] at h; rw [decide_eq_false_iff_not]; omega
/-- .. unless they are the same, or as far apart as can be. -/
theorem same_iff (a b : Int) (ha : U a) (hb : U b) : (a = b ∨ IntKind.u64.wrap (a - b) = 9223372036854775808) ↔ (bef a b = false ∧ bef b a = false) := by
  rw [wrapM]; unfold bef U M at *
  rw [decide_eq_false_iff_not, decide_eq_false_iff_not]; omega

/-! ### Near a least time -/
def nearN (n : Int) : Int := n % 9223372036854775808 - 4611686018427387904
theorem near_b (n : Int) : -4611686018427387904 ≤ nearN n ∧ nearN n < 4611686018427387904 := by unfold nearN; omega
theorem I_near (n : Int) : I (nearN n) := by have := near_b n; unfold I; omega
theorem bef_near (m x y : Int) (hx : -4611686018427387904 ≤ x ∧ x < 4611686018427387904) (hy : -4611686018427387904 ≤ y ∧ y < 4611686018427387904) :
    bef (atN m x) (atN m y) = decide (x < y) := by
  unfold bef; rw [decide_eq_decide]; unfold atN M; omega

/-! ### Steps -/
theorem lag_step_ge (v m d : Int) (hd : I d) : lagN v m ≤ lagN (stepN v m d) m := by
  have hl := I_lag v m
  unfold stepN mx
  split
  · exact Int.le_refl _
  · rename_i h
    rw [lag_at _ _ (by unfold I at *; omega)]
    omega
theorem lag_step_le (v m d : Int) (hd : I d) : lagN (stepN v m d) m ≤ mx ∨ stepN v m d = v := by
  have hl := I_lag v m
  unfold stepN mx at *
  split
  · exact .inr rfl
  · rename_i h
    left
    rw [lag_at _ _ (by unfold I at *; omega)]
    omega
theorem step_lag (v m d : Int) (hd : I d) (h : lagN v m < mx) : lagN (stepN v m d) m = min mx (lagN v m + max d 0) := by
  have hl := I_lag v m
  unfold stepN mx at *
  split
  · omega
  · rw [lag_at _ _ (by unfold I at *; omega)]; omega
theorem lag_inj {x y m : Int} (hx : U x) (hy : U y) (h : lagN x m = lagN y m) : x = y := by
  rw [← at_lag x m hx, h, at_lag y m hy]
theorem step_far (v m d : Int) (h : mx ≤ lagN v m) : stepN v m d = v := by unfold stepN; rw [if_pos (.inr h)]
theorem step_two (v m d e : Int) (hv : U v) (hd : I d) (he : I e) (hde : I (d + e)) (d0 : 0 ≤ d) (e0 : 0 ≤ e) : stepN (stepN v m d) m e = stepN v m (d + e) := by
  by_cases h : mx ≤ lagN v m
  · rw [step_far v m d h, step_far v m e h, step_far v m _ h]
  · have h1 := step_lag v m d hd (by omega)
    have h2 := step_lag v m (d + e) hde (by omega)
    refine lag_inj (m := m) (U_step _ _ _ (U_step _ _ _ hv)) (U_step _ _ _ hv) ?_
    by_cases k : mx ≤ lagN (stepN v m d) m
    · rw [step_far _ m e k, h1, h2]; omega
    · rw [step_lag _ m e he (by omega), h1, h2]; omega

/-! ### Bounds -/
theorem clamp_ge (n l m : Int) (h : l ≤ m) : l ≤ clampN n l m := by unfold clampN; split; exact Int.le_refl _; split; exact h; omega
theorem clamp_le (n l m : Int) (h : l ≤ m) : clampN n l m ≤ m := by unfold clampN; split; omega; split <;> omega
theorem clamp_eq (n l m : Int) : clampN n l m = n ↔ (l ≤ n ∧ n ≤ m) := by unfold clampN; split; omega; split <;> omega
theorem clamp_two (n l m : Int) (h : l ≤ m) : clampN (clampN n l m) l m = clampN n l m := (clamp_eq _ l m).2 ⟨clamp_ge n l m h, clamp_le n l m h⟩
end Tn
end Go.Proofs.YtpmknpdnhfnfcaaGreatDoor

namespace Go.Proofs.YtpmknpdnhfnfcaaGreatDoor
namespace Ky
open Wd Tn

/-- A key: its time, its Id. -/
abbrev K := Int × Int
/-- A key's numbers lie in their kinds' bounds. -/
def Kin (k : K) : Prop := U k.1 ∧ I k.2
/-- Is a less than b, by m? -/
def ltK (m : Int) (a b : K) : Bool := decide (lagN a.1 m < lagN b.1 m ∨ (lagN a.1 m = lagN b.1 m ∧ a.2 < b.2))
theorem ltK_iff (m : Int) (a b : K) : ltK m a b = true ↔ (lagN a.1 m < lagN b.1 m ∨ (lagN a.1 m = lagN b.1 m ∧ a.2 < b.2)) := decide_eq_true_iff
theorem ltK_not (m : Int) (a b : K) : ltK m a b = false ↔ ¬ (lagN a.1 m < lagN b.1 m ∨ (lagN a.1 m = lagN b.1 m ∧ a.2 < b.2)) := decide_eq_false_iff_not
theorem lt_irrefl (m : Int) (a : K) : ltK m a a = false := by rw [ltK_not]; omega
theorem lt_trans {m : Int} {a b c : K} (h : ltK m a b = true) (k : ltK m b c = true) : ltK m a c = true := by rw [ltK_iff] at *; omega
theorem lt_ntrans {m : Int} {a b c : K} (h : ltK m a b = false) (k : ltK m b c = false) : ltK m a c = false := by rw [ltK_not] at *; omega
theorem lt_asymm {m : Int} {a b : K} (h : ltK m a b = true) : ltK m b a = false := by rw [ltK_iff] at h; rw [ltK_not]; omega
/-- Neither is less: they are one. -/
theorem lt_same {m : Int} {a b : K} (ha : Kin a) (hb : Kin b) (h : ltK m a b = false) (k : ltK m b a = false) : a = b := by
  rw [ltK_not] at h k
  have e1 : a.1 = b.1 := lag_inj ha.1 hb.1 (m := m) (by omega)
  have e2 : a.2 = b.2 := by omega
  exact Prod.ext e1 e2

/-! ### Sorted -/
/-- Keys are sorted. -/
def okK (m : Int) (l : List K) : Prop := l.Pairwise fun a b => ltK m a b = true ∧ a.2 ≠ b.2
instance (m : Int) (l : List K) : Decidable (okK m l) := by unfold okK; infer_instance
theorem okK_take {m : Int} {l : List K} (h : okK m l) (i : Nat) : okK m (l.take i) := h.sublist (List.take_sublist i l)
theorem okK_at {m : Int} {l : List K} (h : okK m l) {i j : Nat} (hij : i < j) (hj : j < l.length) : ltK m (l.getD i (0, 0)) (l.getD j (0, 0)) = true ∧ (l.getD i (0, 0)).2 ≠ (l.getD j (0, 0)).2 := by
  have := List.pairwise_iff_getElem.1 h i j (by omega) hj hij
  simpa [List.getD, show i < l.length by omega, hj] using this
theorem okK_of {m : Int} {l : List K} (h : ∀ i j, i < j → j < l.length → ltK m (l.getD i (0, 0)) (l.getD j (0, 0)) = true ∧ (l.getD i (0, 0)).2 ≠ (l.getD j (0, 0)).2) : okK m l :=
  List.pairwise_iff_getElem.2 fun i j hi hj hij => by
    have := h i j hij hj
    simpa [List.getD, hi, hj] using this
/-- One more, behind all. -/
theorem okK_more {m : Int} {l : List K} {i : Nat} (hi : i < l.length) (h : okK m (l.take i)) (h1 : 0 < i → ltK m (l.getD (i - 1) (0, 0)) (l.getD i (0, 0)) = true) (h2 : ∀ j, j < i → (l.getD j (0, 0)).2 ≠ (l.getD i (0, 0)).2) : okK m (l.take (i + 1)) := by
  refine okK_of fun a b hab hb => ?_
  have hb' : b < i + 1 := by simp [List.length_take] at hb; omega
  have ga : (l.take (i + 1)).getD a (0, 0) = l.getD a (0, 0) := by simp [List.getD, show a < i + 1 by omega]
  have gb : (l.take (i + 1)).getD b (0, 0) = l.getD b (0, 0) := by simp [List.getD, hb']
  rw [ga, gb]
  have old : ∀ a b, a < b → b < i → ltK m (l.getD a (0, 0)) (l.getD b (0, 0)) = true ∧ (l.getD a (0, 0)).2 ≠ (l.getD b (0, 0)).2 := fun a b h3 h4 => by
    have := okK_at h h3 (by simp [List.length_take]; omega)
    simpa [List.getD, List.getElem?_take, show a < i by omega, h4] using this
  by_cases hbi : b = i
  · subst hbi
    refine ⟨?_, h2 a hab⟩
    have hl := h1 (by omega)
    by_cases hai : a = b - 1
    · subst hai; exact hl
    · exact lt_trans (old a (b - 1) (by omega) (by omega)).1 hl
  · exact old a b hab (by omega)
theorem okK_less {m : Int} {l : List K} {i : Nat} (hi : i < l.length) (h : okK m l) (h0 : 0 < i) : ltK m (l.getD (i - 1) (0, 0)) (l.getD i (0, 0)) = true := (okK_at h (by omega) hi).1
/-- Turned on by the same, or by another least time that keeps all lags' order. -/
theorem okK_map {m m' : Int} {l : List K} {f : K → K} (h : okK m l) (hf : ∀ a b, a ∈ l → b ∈ l → ltK m a b = true → ltK m' (f a) (f b) = true) (hi : ∀ a, (f a).2 = a.2) : okK m' (l.map f) := by
  unfold okK at *
  rw [List.pairwise_map]
  refine List.Pairwise.imp_of_mem ?_ h
  intro a b ha hb hab
  exact ⟨hf a b ha hb hab.1, by rw [hi, hi]; exact hab.2⟩

/-! ### The first one -/
def fstK (m : Int) (a : K) (l : List K) : K := l.foldl (fun best k => if ltK m k best = true then k else best) a
/-- The first of all; nothing of none. -/
def firstK (m : Int) (l : List K) : K := fstK m (l.headD (0, 0)) l.tail
theorem fstK_more (m : Int) (a : K) (l : List K) (k : K) : fstK m a (l ++ [k]) = if ltK m k (fstK m a l) = true then k else fstK m a l := by unfold fstK; rw [List.foldl_append]; rfl
theorem fstK_mem (m : Int) (a : K) (l : List K) : fstK m a l = a ∨ fstK m a l ∈ l := by
  induction l generalizing a with
  | nil => exact .inl rfl
  | cons x l ih =>
    show fstK m (if ltK m x a = true then x else a) l = a ∨ fstK m (if ltK m x a = true then x else a) l ∈ x :: l
    rcases ih (if ltK m x a = true then x else a) with h | h
    · rw [h]; split
      · exact .inr (List.mem_cons_self ..)
      · exact .inl rfl
    · exact .inr (List.mem_cons_of_mem _ h)
theorem fstK_least (m : Int) (a : K) (l : List K) : ltK m a (fstK m a l) = false ∧ ∀ x ∈ l, ltK m x (fstK m a l) = false := by
  induction l generalizing a with
  | nil => exact ⟨lt_irrefl m a, fun x hx => by cases hx⟩
  | cons x l ih =>
    show ltK m a (fstK m (if ltK m x a = true then x else a) l) = false ∧ ∀ y ∈ x :: l, ltK m y (fstK m (if ltK m x a = true then x else a) l) = false
    cases hx : ltK m x a with
    | true =>
      rw [if_pos rfl]
      obtain ⟨h1, h2⟩ := ih x
      refine ⟨lt_ntrans (lt_asymm hx) h1, fun y hy => ?_⟩
      rcases List.mem_cons.1 hy with rfl | hy
      · exact h1
      · exact h2 y hy
    | false =>
      rw [if_neg (by decide)]
      obtain ⟨h1, h2⟩ := ih a
      refine ⟨h1, fun y hy => ?_⟩
      rcases List.mem_cons.1 hy with rfl | hy
      · exact lt_ntrans hx h1
      · exact h2 y hy

/-! ### Sorting -/
/-- A key, ahead of the first one that is greater. -/
def insK (m : Int) (k : K) : List K → List K
  | [] => [k]
  | x :: l => if ltK m k x = true then k :: x :: l else x :: insK m k l
def srtK (m : Int) (l : List K) : List K := l.foldl (fun out k => insK m k out) []
theorem srtK_more (m : Int) (l : List K) (k : K) : srtK m (l ++ [k]) = insK m k (srtK m l) := by unfold srtK; rw [List.foldl_append]; rfl
theorem insK_length (m : Int) (k : K) (l : List K) : (insK m k l).length = l.length + 1 := by
  induction l with
  | nil => rfl
  | cons x l ih => unfold insK; split <;> simp [ih]
theorem insK_perm (m : Int) (k : K) (l : List K) : (insK m k l).Perm (k :: l) := by
  induction l with
  | nil => exact .refl _
  | cons x l ih =>
    unfold insK
    split
    · exact .refl _
    · exact (ih.cons x).trans (.swap ..)
theorem fold_perm (m : Int) (l out : List K) : (l.foldl (fun out k => insK m k out) out).Perm (out ++ l) := by
  induction l generalizing out with
  | nil => simp
  | cons x l ih =>
    refine (ih (insK m x out)).trans ?_
    exact ((insK_perm m x out).append_right l).trans (List.perm_middle.symm)
theorem srtK_perm (m : Int) (l : List K) : (srtK m l).Perm l := fold_perm m l []
theorem srtK_length (m : Int) (l : List K) : (srtK m l).length = l.length := (srtK_perm m l).length_eq
theorem srtK_mem (m : Int) (l : List K) (k : K) : k ∈ srtK m l ↔ k ∈ l := (srtK_perm m l).mem_iff
/-- Ascending: no later one is less than an earlier one. -/
def Asc (m : Int) (l : List K) : Prop := l.Pairwise fun a b => ltK m b a = false
theorem insK_asc {m : Int} {k : K} {l : List K} (h : Asc m l) : Asc m (insK m k l) := by
  induction l with
  | nil => exact List.pairwise_singleton _ _
  | cons x l ih =>
    have hx := List.pairwise_cons.1 h
    unfold insK
    cases hk : ltK m k x with
    | true =>
      rw [if_pos rfl]
      refine List.pairwise_cons.2 ⟨fun y hy => ?_, h⟩
      rcases List.mem_cons.1 hy with rfl | hy
      · exact lt_asymm hk
      · exact lt_ntrans (hx.1 y hy) (lt_asymm hk)
    | false =>
      rw [if_neg (by decide)]
      refine List.pairwise_cons.2 ⟨fun y hy => ?_, ih hx.2⟩
      rcases List.mem_cons.1 ((insK_perm m k l).mem_iff.1 hy) with rfl | hy
      · exact hk
      · exact hx.1 y hy
theorem fold_asc (m : Int) (l out : List K) (h : Asc m out) : Asc m (l.foldl (fun out k => insK m k out) out) := by
  induction l generalizing out with
  | nil => exact h
  | cons x l ih => exact ih _ (insK_asc h)
theorem srtK_asc (m : Int) (l : List K) : Asc m (srtK m l) := fold_asc m l [] List.Pairwise.nil
/-- There is one ascending row. -/
theorem asc_one {m : Int} {a b : List K} (hin : ∀ k ∈ a, Kin k) (ha : Asc m a) (hb : Asc m b) (hp : a.Perm b) : a = b :=
  List.Perm.eq_of_pairwise (le := fun x y => ltK m y x = false) (fun x y hx hy h1 h2 => lt_same (hin x hx) (hin y (hp.mem_iff.2 hy)) h2 h1) ha hb hp
theorem srtK_one {m : Int} {l d : List K} (hin : ∀ k ∈ l, Kin k) (hd : Asc m d) (hp : d.Perm l) : d = srtK m l :=
  asc_one (fun k hk => hin k (hp.mem_iff.1 hk)) hd (srtK_asc m l) (hp.trans (srtK_perm m l).symm)
theorem okK_asc {m : Int} {l : List K} (h : okK m l) : Asc m l := h.imp fun hab => lt_asymm hab.1
/-- Ascending, and no Id twice: sorted. -/
theorem asc_okK {m : Int} {l : List K} (hin : ∀ k ∈ l, Kin k) (h : Asc m l) (hn : (l.map (·.2)).Nodup) : okK m l := by
  have h2 : l.Pairwise fun a b => a.2 ≠ b.2 := by rw [List.nodup_iff_pairwise_ne, List.pairwise_map] at hn; exact hn
  have h3 := List.pairwise_and_iff.2 ⟨h, h2⟩
  refine List.Pairwise.imp_of_mem ?_ h3
  intro a b ha hb hab
  refine ⟨?_, hab.2⟩
  cases hl : ltK m a b with
  | true => rfl
  | false => exact absurd (congrArg Prod.snd (lt_same (hin a ha) (hin b hb) hl hab.1)) hab.2
theorem okK_ids {m : Int} {l : List K} (h : okK m l) : (l.map (·.2)).Nodup := by
  rw [List.nodup_iff_pairwise_ne, List.pairwise_map]
  exact h.imp fun hab => hab.2

/-! ### Where one stands -/
/-- How many are not greater than k. -/
def posK (m : Int) (k : K) (l : List K) : Nat := l.countP fun x => !ltK m k x
theorem posK_le (m : Int) (k : K) (l : List K) : posK m k l ≤ l.length := List.countP_le_length
theorem insK_pos {m : Int} {k : K} {l : List K} (h : okK m l) : insK m k l = l.take (posK m k l) ++ k :: l.drop (posK m k l) := by
  induction l with
  | nil => rfl
  | cons x l ih =>
    have hx := List.pairwise_cons.1 h
    unfold insK posK
    cases hk : ltK m k x with
    | true =>
      have h0 : (x :: l).countP (fun y => !ltK m k y) = 0 := by
        rw [List.countP_eq_zero]
        intro y hy
        rcases List.mem_cons.1 hy with rfl | hy
        · simp [hk]
        · simp [lt_trans hk (hx.1 y hy).1]
      rw [if_pos rfl, h0]; rfl
    | false =>
      have h1 : (x :: l).countP (fun y => !ltK m k y) = posK m k l + 1 := by rw [List.countP_cons]; simp [hk, posK]
      rw [if_neg (by decide), h1, ih hx.2]; rfl
/-- What the search asks at each place. -/
theorem pos_mono {m : Int} {k : K} {l : List K} (h : okK m l) (a b : Nat) (hab : a ≤ b) (hb : b < l.length) (hp : ltK m k (l.getD a (0, 0)) = true) : ltK m k (l.getD b (0, 0)) = true := by
  rcases Nat.lt_or_ge a b with h1 | h1
  · exact lt_trans hp (okK_at h h1 hb).1
  · obtain rfl : a = b := by omega
    exact hp
theorem pos_range (m : Int) (k : K) (l : List K) : (List.range l.length).countP (fun i => !ltK m k (l.getD i (0, 0))) = posK m k l := by
  have h : l = (List.range l.length).map (fun i => l.getD i (0, 0)) := by
    apply List.ext_getElem
    · simp
    · intro i h1 h2
      simp [List.getD, h1]
  unfold posK
  conv => rhs; rw [h]
  rw [List.countP_map]; rfl

/-- Where an Id is; below 0: nowhere. -/
def idxK (id : Int) (l : List K) : Nat := l.findIdx fun x => decide (x.2 = id)
theorem idxK_le (id : Int) (l : List K) : idxK id l ≤ l.length := List.findIdx_le_length
theorem idxK_at {id : Int} {l : List K} {i : Nat} (hi : i < l.length) (h : (l.getD i (0, 0)).2 = id) (hn : ∀ j, j < i → (l.getD j (0, 0)).2 ≠ id) : idxK id l = i := by
  unfold idxK
  rw [List.findIdx_eq hi]
  refine ⟨by simpa [List.getD, hi] using h, fun j hj => ?_⟩
  have := hn j hj
  simpa [List.getD, show j < l.length by omega] using this
theorem idxK_none {id : Int} {l : List K} (h : ∀ j, j < l.length → (l.getD j (0, 0)).2 ≠ id) : idxK id l = l.length := by
  unfold idxK
  rw [List.findIdx_eq_length]
  intro x hx
  obtain ⟨j, hj, rfl⟩ := List.mem_iff_getElem.1 hx
  have := h j hj
  simpa [List.getD, hj] using this
theorem idxK_has {id : Int} {l : List K} (h : idxK id l < l.length) : (l.getD (idxK id l) (0, 0)).2 = id := by
  have := List.findIdx_getElem (p := fun x : K => decide (x.2 = id)) (xs := l) (w := h)
  unfold idxK at h ⊢
  simpa [List.getD, h] using this
theorem idxK_mem {id : Int} {l : List K} : idxK id l < l.length ↔ id ∈ l.map (·.2) := by
  unfold idxK
  rw [List.findIdx_lt_length]
  simp

/-! ### Put and Drop -/
def putE (m : Int) (l : List K) (k : K) : Int := if okK m l then (if idxK k.2 l < l.length then 1 else 0) else 4
def putL (m : Int) (l : List K) (k : K) : List K := if okK m l then (if idxK k.2 l < l.length then [] else insK m k l) else []
def dropE (m : Int) (l : List K) (id : Int) : Int := if okK m l then (if idxK id l < l.length then 0 else 8) else 4
def dropL (m : Int) (l : List K) (id : Int) : List K := if okK m l then (if idxK id l < l.length then l.take (idxK id l) ++ l.drop (idxK id l + 1) else []) else []
theorem put_unsorted {m : Int} {l : List K} (h : ¬ okK m l) (k : K) : putE m l k = 4 ∧ putL m l k = [] := by unfold putE putL; rw [if_neg h, if_neg h]; exact ⟨rfl, rfl⟩
theorem put_has {m : Int} {l : List K} (h : okK m l) {k : K} (hk : idxK k.2 l < l.length) : putE m l k = 1 ∧ putL m l k = [] := by unfold putE putL; rw [if_pos h, if_pos h, if_pos hk, if_pos hk]; exact ⟨rfl, rfl⟩
theorem put_new {m : Int} {l : List K} (h : okK m l) {k : K} (hk : ¬ idxK k.2 l < l.length) : putE m l k = 0 ∧ putL m l k = insK m k l := by unfold putE putL; rw [if_pos h, if_pos h, if_neg hk, if_neg hk]; exact ⟨rfl, rfl⟩
theorem drop_unsorted {m : Int} {l : List K} (h : ¬ okK m l) (id : Int) : dropE m l id = 4 ∧ dropL m l id = [] := by unfold dropE dropL; rw [if_neg h, if_neg h]; exact ⟨rfl, rfl⟩
theorem drop_has {m : Int} {l : List K} (h : okK m l) {id : Int} (hk : idxK id l < l.length) : dropE m l id = 0 ∧ dropL m l id = l.take (idxK id l) ++ l.drop (idxK id l + 1) := by unfold dropE dropL; rw [if_pos h, if_pos h, if_pos hk, if_pos hk]; exact ⟨rfl, rfl⟩
theorem drop_none {m : Int} {l : List K} (h : okK m l) {id : Int} (hk : ¬ idxK id l < l.length) : dropE m l id = 8 ∧ dropL m l id = [] := by unfold dropE dropL; rw [if_pos h, if_pos h, if_neg hk, if_neg hk]; exact ⟨rfl, rfl⟩
theorem insK_in {m : Int} {k : K} {l : List K} (hl : ∀ x ∈ l, Kin x) (hk : Kin k) : ∀ x ∈ insK m k l, Kin x := fun x hx => by
  rcases List.mem_cons.1 ((insK_perm m k l).mem_iff.1 hx) with rfl | h
  · exact hk
  · exact hl x h
/-- With one more it is sorted still. -/
theorem insK_ok {m : Int} {k : K} {l : List K} (hl : ∀ x ∈ l, Kin x) (hk : Kin k) (h : okK m l) (hn : ¬ idxK k.2 l < l.length) : okK m (insK m k l) := by
  refine asc_okK (insK_in hl hk) (insK_asc (okK_asc h)) ?_
  have hp : ((insK m k l).map (·.2)).Perm (k.2 :: l.map (·.2)) := (insK_perm m k l).map _
  rw [hp.nodup_iff]
  exact List.nodup_cons.2 ⟨fun hm => hn (idxK_mem.2 hm), okK_ids h⟩
end Ky
end Go.Proofs.YtpmknpdnhfnfcaaGreatDoor

namespace Go.Proofs.YtpmknpdnhfnfcaaGreatDoor
namespace Tr
open Wd Tn Ky

/-- A node: In, Red, V, Left, Right, Up. -/
structure N where
  inn : Bool
  red : Bool
  v : Int
  l : Int
  r : Int
  u : Int
/-- A tree: its root, its nodes. -/
structure T where
  root : Int
  ns : List N
/-- An empty node. -/
def nE : N := ⟨false, false, 0, -1, -1, -1⟩
/-- The node of a number. -/
def T.nd (t : T) (i : Int) : N := t.ns.getD i.toNat nE
def T.put (t : T) (i : Int) (n : N) : T := ⟨t.root, t.ns.set i.toNat n⟩
/-- It is a node's number. -/
def T.has (t : T) (i : Int) : Prop := 0 ≤ i ∧ i < t.ns.length
instance (t : T) (i : Int) : Decidable (t.has i) := by unfold T.has; infer_instance
/-- It is a node's number, or none. -/
def T.ok (t : T) (i : Int) : Prop := i = -1 ∨ t.has i
/-- Is there a node, and is it Red? -/
def T.redB (t : T) (i : Int) : Bool := decide (i ≠ -1) && (t.nd i).red
/-- A side, as a number: right is true. -/
def sI (s : Bool) : Int := if s then 1 else 0
def N.kid (n : N) (s : Bool) : Int := if s then n.r else n.l
def N.setKid (n : N) (s : Bool) (y : Int) : N := if s then { n with r := y } else { n with l := y }
def N.setUp (n : N) (y : Int) : N := { n with u := y }
def N.setRed (n : N) (b : Bool) : N := { n with red := b }
def T.kid (t : T) (i : Int) (s : Bool) : Int := (t.nd i).kid s
def T.up (t : T) (i : Int) : Int := (t.nd i).u
def T.paint (t : T) (i : Int) (b : Bool) : T := t.put i ((t.nd i).setRed b)
def T.side (t : T) (i : Int) : Bool := decide (t.up i ≠ -1) && decide (t.kid (t.up i) true = i)
def T.at (t : T) (u : Int) (s : Bool) : Int := if u = -1 then t.root else t.kid u s
def T.setUp (t : T) (y u : Int) : T := if y = -1 then t else t.put y ((t.nd y).setUp u)
def T.setKid (t : T) (u : Int) (s : Bool) (y : Int) : T := if u = -1 then ⟨y, t.ns⟩ else t.put u ((t.nd u).setKid s y)
/-- y, or no node, stands on a side of u; of no u, at the root's place. -/
def T.hang (t : T) (u : Int) (s : Bool) (y : Int) : T := (t.setKid u s y).setUp y u
/-- x is turned to a side. -/
def T.turn (t : T) (x : Int) (s : Bool) : T :=
  (((t.hang x (!s) (t.kid (t.kid x (!s)) s)).hang (t.up x) (t.side x) (t.kid x (!s))).hang (t.kid x (!s)) s x)

theorem put_len (t : T) (i : Int) (n : N) : (t.put i n).ns.length = t.ns.length := by simp [T.put]
theorem setUp_len (t : T) (y u : Int) : (t.setUp y u).ns.length = t.ns.length := by unfold T.setUp; split <;> simp [put_len]
theorem setKid_len (t : T) (u : Int) (s : Bool) (y : Int) : (t.setKid u s y).ns.length = t.ns.length := by unfold T.setKid; split <;> simp [put_len]
theorem hang_len (t : T) (u : Int) (s : Bool) (y : Int) : (t.hang u s y).ns.length = t.ns.length := by unfold T.hang; rw [setUp_len, setKid_len]
theorem paint_len (t : T) (i : Int) (b : Bool) : (t.paint i b).ns.length = t.ns.length := put_len _ _ _
theorem turn_len (t : T) (x : Int) (s : Bool) : (t.turn x s).ns.length = t.ns.length := by unfold T.turn; simp only [hang_len]
theorem has_len {t t' : T} (h : t'.ns.length = t.ns.length) {i : Int} : t'.has i ↔ t.has i := by unfold T.has; rw [h]
theorem ok_len {t t' : T} (h : t'.ns.length = t.ns.length) {i : Int} : t'.ok i ↔ t.ok i := by unfold T.ok; rw [has_len h]
theorem nd_put_same {t : T} {i : Int} (h : t.has i) (n : N) : (t.put i n).nd i = n := by
  unfold T.has at h
  simp [T.put, T.nd, List.getD, show i.toNat < t.ns.length by omega]
theorem nd_put_other {t : T} {i j : Int} (hi : 0 ≤ i) (hj : 0 ≤ j) (hne : i ≠ j) (n : N) : (t.put i n).nd j = t.nd j := by
  simp [T.put, T.nd, List.getD, show i.toNat ≠ j.toNat by omega]
theorem root_put (t : T) (i : Int) (n : N) : (t.put i n).root = t.root := rfl

/-- x can be turned to a side. -/
structure TurnOk (t : T) (x : Int) (s : Bool) : Prop where
  hx : t.has x
  hu : t.ok (t.up x)
  hr : t.has (t.kid x (!s))
  hk : t.ok (t.kid (t.kid x (!s)) s)
/-- What mending, from x on, makes of a tree, in at most so many rounds. -/
inductive Mend : Nat → T → Int → T → Prop
  | done (n : Nat) (t : T) (x : Int) (hx : t.has x) (hu : t.ok (t.up x)) (hr : t.redB (t.up x) = false) (h0 : t.has t.root) : Mend n t x (t.paint t.root false)
  | up (n : Nat) (t t' : T) (x p g u : Int) (s : Bool) (hx : t.has x) (ep : t.up x = p) (hp : t.has p) (rp : t.redB p = true) (eg : t.up p = g) (hg : t.has g) (es : t.side p = s) (eu : t.kid g (!s) = u) (hu : t.has u) (ru : t.redB u = true)
      (rest : Mend n (((t.paint p false).paint u false).paint g true) g t') : Mend (n + 1) t x t'
  | out (n : Nat) (t t' : T) (x p g u : Int) (s : Bool) (hx : t.has x) (ep : t.up x = p) (hp : t.has p) (rp : t.redB p = true) (eg : t.up p = g) (hg : t.has g) (es : t.side p = s) (eu : t.kid g (!s) = u) (hu : t.ok u) (ru : t.redB u = false)
      (ex : t.side x = s) (nx : t.kid p (!s) ≠ x) (ht : TurnOk ((t.paint p false).paint g true) g (!s))
      (rest : Mend n (((t.paint p false).paint g true).turn g (!s)) x t') : Mend (n + 1) t x t'
  | inn (n : Nat) (t t' : T) (x p g u : Int) (s : Bool) (hx : t.has x) (ep : t.up x = p) (hp : t.has p) (rp : t.redB p = true) (eg : t.up p = g) (hg : t.has g) (es : t.side p = s) (eu : t.kid g (!s) = u) (hu : t.ok u) (ru : t.redB u = false)
      (ex : t.side x = !s) (nx : t.kid p (!s) = x) (h1 : TurnOk t p s) (e1 : (t.turn p s).up p = x) (ht : TurnOk (((t.turn p s).paint x false).paint g true) g (!s))
      (rest : Mend n ((((t.turn p s).paint x false).paint g true).turn g (!s)) p t') : Mend (n + 1) t x t'
theorem Mend.len {n : Nat} {t t' : T} {x : Int} (h : Mend n t x t') : t'.ns.length = t.ns.length := by
  induction h with
  | done => exact paint_len _ _ _
  | up n t t' x p g u s hx ep hp rp eg hg es eu hu ru rest ih => rw [ih, paint_len, paint_len, paint_len]
  | out n t t' x p g u s hx ep hp rp eg hg es eu hu ru ex nx ht rest ih => rw [ih, turn_len, paint_len, paint_len]
  | inn n t t' x p g u s hx ep hp rp eg hg es eu hu ru ex nx h1 e1 ht rest ih => rw [ih, turn_len, paint_len, paint_len, turn_len]
end Tr
end Go.Proofs.YtpmknpdnhfnfcaaGreatDoor

namespace Go.Proofs.YtpmknpdnhfnfcaaGreatDoor
namespace Tr
open Wd Tn Ky

/-- The key of a node. -/
def T.key (t : T) (i : Int) : K := ((t.nd i).v, i)
/-- From x on, which stands on the side s of u, the way down to where k is to stand: on the side s' of u'. -/
inductive Down (m : Int) (k : K) (t : T) : Nat → Int → Int → Bool → Int → Bool → Prop
  | stop (n : Nat) (u : Int) (s : Bool) (hu : t.ok u) : Down m k t n (-1) u s u s
  | step (n : Nat) (x u u' : Int) (s s' : Bool) (hx : t.has x) (rest : Down m k t n (t.kid x (!(ltK m k (t.key x)))) x (!(ltK m k (t.key x))) u' s') : Down m k t (n + 1) x u s u' s'
theorem Down.parts {m : Int} {k : K} {t : T} {n : Nat} {x u u' : Int} {s s' : Bool} (h : Down m k t n x u s u' s') :
    (x = -1 ∧ u' = u ∧ s' = s ∧ t.ok u) ∨ ∃ n', n = n' + 1 ∧ t.has x ∧ Down m k t n' (t.kid x (!(ltK m k (t.key x)))) x (!(ltK m k (t.key x))) u' s' := by
  cases h with
  | stop n u s hu => exact .inl ⟨rfl, rfl, rfl, hu⟩
  | step n x u u' s s' hx rest => exact .inr ⟨n, rfl, hx, rest⟩
theorem Down.ok {m : Int} {k : K} {t : T} {n : Nat} {x u u' : Int} {s s' : Bool} (h : Down m k t n x u s u' s') : t.ok x := by
  rcases h.parts with ⟨rfl, -⟩ | ⟨_, -, hx, -⟩
  · exact .inl rfl
  · exact .inr hx
theorem Down.last {m : Int} {k : K} {t : T} {n : Nat} {x u u' : Int} {s s' : Bool} (h : Down m k t n x u s u' s') : t.ok u' := by
  induction h with
  | stop n u s hu => exact hu
  | step n x u u' s s' hx rest ih => exact ih
/-- A node that has just come. -/
def nNew (v : Int) : N := ⟨true, true, v, -1, -1, 0⟩

/-- The place on the near side of p is filled for good, the far child of the node on the other side being Red. -/
def SetFar (t : T) (p : Int) (s : Bool) (t' : T) : Prop :=
  ∃ v f : Int, t.has p ∧ t.kid p (!s) = v ∧ t.has v ∧ t.kid v (!s) = f ∧ t.has f ∧
    TurnOk (((t.paint v (t.nd p).red).paint p false).paint f false) p s ∧ t' = (((t.paint v (t.nd p).red).paint p false).paint f false).turn p s
/-- The place on the near side of p is filled for good. -/
def Settle (t : T) (p : Int) (s : Bool) (t' : T) : Prop :=
  ∃ v f : Int, t.has p ∧ t.kid p (!s) = v ∧ t.has v ∧ t.kid v (!s) = f ∧ t.ok f ∧
    ((t.redB f = true ∧ SetFar t p s t') ∨
     (t.redB f = false ∧ ∃ c, t.kid v s = c ∧ t.has c ∧ TurnOk ((t.paint c false).paint v true) v (!s) ∧ SetFar (((t.paint c false).paint v true).turn v (!s)) p s t'))
/-- What filling the place on the side s of u makes of a tree, in at most so many rounds. -/
inductive Fill : Nat → T → Int → Bool → T → Prop
  | root (n : Nat) (t : T) (s : Bool) (h0 : t.ok t.root) : Fill n t (-1) s (if t.root = -1 then t else t.paint t.root false)
  | redp (n : Nat) (t : T) (u y : Int) (s : Bool) (hu : t.has u) (ey : t.kid u s = y) (hy : t.has y) (ry : t.redB y = true) : Fill n t u s (t.paint y false)
  | turn (n : Nat) (t t' : T) (u v : Int) (s : Bool) (hu : t.has u) (hk : t.ok (t.kid u s)) (rk : t.redB (t.kid u s) = false) (ev : t.kid u (!s) = v) (hv : t.has v) (rv : t.redB v = true)
      (ht : TurnOk ((t.paint v false).paint u true) u s)
      (r2 : (((t.paint v false).paint u true).turn u s).redB ((((t.paint v false).paint u true).turn u s).kid u s) = false)
      (r1 : (((t.paint v false).paint u true).turn u s).redB ((((t.paint v false).paint u true).turn u s).kid u (!s)) = false)
      (rest : Fill n (((t.paint v false).paint u true).turn u s) u s t') : Fill (n + 1) t u s t'
  | settle (n : Nat) (t t' : T) (u v : Int) (s : Bool) (hu : t.has u) (hk : t.ok (t.kid u s)) (rk : t.redB (t.kid u s) = false) (ev : t.kid u (!s) = v) (hv : t.has v) (rv : t.redB v = false)
      (ol : t.ok (t.kid v false)) (or : t.ok (t.kid v true)) (rr : (t.redB (t.kid v false) || t.redB (t.kid v true)) = true) (hs : Settle t u s t') : Fill n t u s t'
  | up (n : Nat) (t t' : T) (u v : Int) (s : Bool) (hu : t.has u) (hk : t.ok (t.kid u s)) (rk : t.redB (t.kid u s) = false) (ev : t.kid u (!s) = v) (hv : t.has v) (rv : t.redB v = false)
      (ol : t.ok (t.kid v false)) (or : t.ok (t.kid v true)) (rr : (t.redB (t.kid v false) || t.redB (t.kid v true)) = false) (hp : (t.paint v true).ok ((t.paint v true).up u))
      (rest : Fill n (t.paint v true) ((t.paint v true).up u) ((t.paint v true).side u) t') : Fill (n + 1) t u s t'
/-- What follows where w's color is settled. -/
def FillV (m : Nat) (t : T) (u v : Int) (s : Bool) (t' : T) : Prop :=
  t.has u ∧ t.kid u (!s) = v ∧ t.has v ∧ t.ok (t.kid v false) ∧ t.ok (t.kid v true) ∧
    (((t.redB (t.kid v false) || t.redB (t.kid v true)) = true ∧ Settle t u s t') ∨
     ((t.redB (t.kid v false) || t.redB (t.kid v true)) = false ∧ 0 < m ∧ (t.paint v true).ok ((t.paint v true).up u) ∧ Fill (m - 1) (t.paint v true) ((t.paint v true).up u) ((t.paint v true).side u) t'))
theorem has_ne {t : T} {i : Int} (h : t.has i) : i ≠ -1 := by unfold T.has at h; omega
theorem Fill.black {m : Nat} {t t' : T} {u : Int} {s : Bool} (h : Fill m t u s t') (hu : t.has u) (rk : t.redB (t.kid u s) = false) (rv : t.redB (t.kid u (!s)) = false) : FillV m t u (t.kid u (!s)) s t' := by
  cases h with
  | root n t s h0 => exact absurd rfl (has_ne hu)
  | redp n t u y s hu' ey hy ry => rw [ey] at rk; rw [rk] at ry; cases ry
  | turn n t t' u v s hu' hk rk' ev hv rv' ht r2 r1 rest => rw [ev] at rv; rw [rv] at rv'; cases rv'
  | settle n t t' u v s hu' hk rk' ev hv rv' ol or rr hs => subst ev; exact ⟨hu, rfl, hv, ol, or, .inl ⟨rr, hs⟩⟩
  | up n t t' u v s hu' hk rk' ev hv rv' ol or rr hp rest => subst ev; exact ⟨hu, rfl, hv, ol, or, .inr ⟨rr, by omega, hp, rest⟩⟩
theorem Fill.parts {n : Nat} {t t' : T} {u : Int} {s : Bool} (h : Fill n t u s t') :
    (u = -1 ∧ t.ok t.root ∧ t' = if t.root = -1 then t else t.paint t.root false) ∨
    (t.has u ∧ t.has (t.kid u s) ∧ t.redB (t.kid u s) = true ∧ t' = t.paint (t.kid u s) false) ∨
    (t.has u ∧ t.ok (t.kid u s) ∧ t.redB (t.kid u s) = false ∧ t.has (t.kid u (!s)) ∧
      ((t.redB (t.kid u (!s)) = true ∧ TurnOk ((t.paint (t.kid u (!s)) false).paint u true) u s ∧ ∃ m, m < n ∧ FillV m (((t.paint (t.kid u (!s)) false).paint u true).turn u s) u ((((t.paint (t.kid u (!s)) false).paint u true).turn u s).kid u (!s)) s t') ∨
       (t.redB (t.kid u (!s)) = false ∧ FillV n t u (t.kid u (!s)) s t'))) := by
  cases h with
  | root n t s h0 => exact .inl ⟨rfl, h0, rfl⟩
  | redp n t u y s hu ey hy ry => subst ey; exact .inr (.inl ⟨hu, hy, ry, rfl⟩)
  | turn n t t' u v s hu hk rk ev hv rv ht r2 r1 rest =>
    subst ev
    have hu' : (((t.paint (t.kid u (!s)) false).paint u true).turn u s).has u := (has_len (by rw [turn_len, paint_len, paint_len])).2 hu
    exact .inr (.inr ⟨hu, hk, rk, hv, .inl ⟨rv, ht, n, by omega, rest.black hu' r2 r1⟩⟩)
  | settle n t t' u v s hu hk rk ev hv rv ol or rr hs => subst ev; exact .inr (.inr ⟨hu, hk, rk, hv, .inr ⟨rv, hu, rfl, hv, ol, or, .inl ⟨rr, hs⟩⟩⟩)
  | up n t t' u v s hu hk rk ev hv rv ol or rr hp rest => subst ev; exact .inr (.inr ⟨hu, hk, rk, hv, .inr ⟨rv, hu, rfl, hv, ol, or, .inr ⟨rr, by omega, hp, rest⟩⟩⟩)
/-- Colors change no kid, no Up. -/
theorem nd_paint (t : T) (i j : Int) (b : Bool) : ((t.paint i b).nd j).l = (t.nd j).l ∧ ((t.paint i b).nd j).r = (t.nd j).r ∧ ((t.paint i b).nd j).u = (t.nd j).u := by
  unfold T.paint T.put T.nd
  simp only [List.getD, List.getElem?_set]
  split
  · rename_i h
    split
    · rename_i h2
      rw [← h]
      simp [N.setRed, h2]
    · rename_i h2
      rw [← h]
      simp [h2]
  · simp
theorem kid_paint (t : T) (i j : Int) (b s : Bool) : (t.paint i b).kid j s = t.kid j s := by
  unfold T.kid N.kid
  rw [(nd_paint t i j b).1, (nd_paint t i j b).2.1]
theorem up_paint (t : T) (i j : Int) (b : Bool) : (t.paint i b).up j = t.up j := (nd_paint t i j b).2.2
end Tr
end Go.Proofs.YtpmknpdnhfnfcaaGreatDoor

namespace Go.Proofs.YtpmknpdnhfnfcaaGreatDoor
namespace Tr
open Wd Tn Ky

/-- From y on by Left, as long as there is one. -/
inductive Leftmost (t : T) : Nat → Int → Int → Prop
  | stop (n : Nat) (y : Int) (hy : t.has y) (hl : t.kid y false = -1) : Leftmost t n y y
  | step (n : Nat) (y y' : Int) (hy : t.has y) (hl : t.kid y false ≠ -1) (rest : Leftmost t n (t.kid y false) y') : Leftmost t (n + 1) y y'
theorem Leftmost.parts {t : T} {n : Nat} {y y' : Int} (h : Leftmost t n y y') : t.has y ∧ ((t.kid y false = -1 ∧ y' = y) ∨ (t.kid y false ≠ -1 ∧ ∃ m, n = m + 1 ∧ Leftmost t m (t.kid y false) y')) := by
  cases h with
  | stop n y hy hl => exact ⟨hy, .inl ⟨hl, rfl⟩⟩
  | step n y y' hy hl rest => exact ⟨hy, .inr ⟨hl, n, rfl, rest⟩⟩
theorem Leftmost.last {t : T} {n : Nat} {y y' : Int} (h : Leftmost t n y y') : t.has y' := by
  induction h with
  | stop n y hy hl => exact hy
  | step n y y' hy hl rest ih => exact ih
/-- y takes z's place, step by step. -/
def rep1 (t : T) (y : Int) : T := t.hang (t.up y) (t.side y) (t.kid y true)
def rep2 (t : T) (z y : Int) : T := (rep1 t y).hang ((rep1 t y).up z) ((rep1 t y).side z) y
def rep3 (t : T) (z y : Int) : T := (rep2 t z y).hang y false ((rep2 t z y).kid z false)
def rep4 (t : T) (z y : Int) : T := (rep3 t z y).hang y true ((rep3 t z y).kid z true)
def rep5 (t : T) (z y : Int) : T := (rep4 t z y).paint y ((rep4 t z y).nd z).red
/-- y can take z's place. -/
structure RepOk (t : T) (z y : Int) : Prop where
  hz : t.has z
  hy : t.has y
  hu : t.ok (t.up y)
  hr : t.ok (t.kid y true)
  uz : (rep1 t y).ok ((rep1 t y).up z)
  kl : (rep2 t z y).ok ((rep2 t z y).kid z false)
  kr : (rep3 t z y).ok ((rep3 t z y).kid z true)
theorem rep1_len (t : T) (y : Int) : (rep1 t y).ns.length = t.ns.length := hang_len _ _ _ _
theorem rep2_len (t : T) (z y : Int) : (rep2 t z y).ns.length = t.ns.length := (hang_len _ _ _ _).trans (rep1_len t y)
theorem rep3_len (t : T) (z y : Int) : (rep3 t z y).ns.length = t.ns.length := (hang_len _ _ _ _).trans (rep2_len t z y)
theorem rep4_len (t : T) (z y : Int) : (rep4 t z y).ns.length = t.ns.length := (hang_len _ _ _ _).trans (rep3_len t z y)
theorem rep5_len (t : T) (z y : Int) : (rep5 t z y).ns.length = t.ns.length := (paint_len _ _ _).trans (rep4_len t z y)
/-- A node is taken out: what the tree is then (its node not yet empty), what goes, the place to be filled. -/
inductive Out (t : T) (z : Int) : T → Bool → Int → Bool → Prop
  | left (hl : t.kid z false = -1) (hr : t.ok (t.kid z true)) : Out t z (t.hang (t.up z) (t.side z) (t.kid z true)) (t.nd z).red (t.up z) (t.side z)
  | right (hl : t.kid z false ≠ -1) (hl' : t.ok (t.kid z false)) (hr : t.kid z true = -1) : Out t z (t.hang (t.up z) (t.side z) (t.kid z false)) (t.nd z).red (t.up z) (t.side z)
  | both (n : Nat) (y : Int) (hl : t.kid z false ≠ -1) (hr : t.kid z true ≠ -1) (hm : Leftmost t n (t.kid z true) y) (ho : RepOk t z y) : Out t z (rep5 t z y) (t.nd y).red (if t.up y = z then y else t.up y) (t.side y)
theorem Out.len {t t1 : T} {z u : Int} {g s : Bool} (h : Out t z t1 g u s) : t1.ns.length = t.ns.length := by
  cases h with
  | left hl hr => exact hang_len _ _ _ _
  | right hl hl' hr => exact hang_len _ _ _ _
  | both n y hl hr hm ho => exact rep5_len _ _ _
/-- What taking a node out makes of a tree. -/
def Remove (t : T) (z : Int) (t' : T) : Prop :=
  t.has z ∧ t.ok (t.up z) ∧ ∃ (t1 : T) (g : Bool) (u : Int) (s : Bool), Out t z t1 g u s ∧ ((g = true ∧ t' = t1.put z nE) ∨ (g = false ∧ ∃ n, Fill n (t1.put z nE) u s t'))
end Tr
end Go.Proofs.YtpmknpdnhfnfcaaGreatDoor

namespace Go.Proofs.YtpmknpdnhfnfcaaGreatDoor
namespace Tr
open Wd Tn Ky

/-- How many are not met. -/
def cnt (met : List Bool) : Nat := met.countP (fun b => !b)
/-- What is met from x on, which is come by from u: is all in order, and what is met then. -/
def meetF (t : T) : Nat → Int → Int → List Bool → Bool × List Bool
  | 0, x, _, met => (decide (x = -1), met)
  | n + 1, x, u, met =>
    if x = -1 then (true, met)
    else if t.has x ∧ met.getD x.toNat false = false ∧ t.up x = u then
      if (meetF t n (t.kid x false) x (met.set x.toNat true)).1 = true then meetF t n (t.kid x true) x (meetF t n (t.kid x false) x (met.set x.toNat true)).2
      else (false, (meetF t n (t.kid x false) x (met.set x.toNat true)).2)
    else (false, met)
theorem meetF_len (t : T) (n : Nat) : ∀ (x u : Int) (met : List Bool), (meetF t n x u met).2.length = met.length := by
  induction n with
  | zero => intro x u met; rfl
  | succ n ih =>
    intro x u met
    unfold meetF
    split
    · rfl
    · split
      · split
        · rw [ih, ih, List.length_set]
        · rw [ih, List.length_set]
      · rfl
theorem cnt_set {met : List Bool} {k : Nat} (hk : k < met.length) (h : met.getD k false = false) : cnt (met.set k true) + 1 = cnt met := by
  induction met generalizing k with
  | nil => exact absurd hk (Nat.not_lt_zero _)
  | cons a l ih =>
    match k with
    | 0 =>
      have : a = false := by simpa [List.getD] using h
      subst this
      simp [cnt]
    | k + 1 =>
      have := ih (k := k) (by simpa using hk) (by simpa [List.getD] using h)
      unfold cnt at *
      rw [List.set_cons_succ, List.countP_cons, List.countP_cons]
      omega
theorem cnt_zero {met : List Bool} (h : cnt met = 0) {k : Nat} (hk : k < met.length) : met.getD k false = true := by
  unfold cnt at h
  have := List.countP_eq_zero.1 h (met.getD k false) (by simp [List.getD, hk])
  simpa using this
theorem meetF_cnt (t : T) (n : Nat) : ∀ (x u : Int) (met : List Bool), t.ns.length ≤ met.length → cnt (meetF t n x u met).2 ≤ cnt met := by
  induction n with
  | zero => intro x u met _; exact Nat.le_refl _
  | succ n ih =>
    intro x u met hl
    unfold meetF
    split
    · exact Nat.le_refl _
    · split
      · rename_i hx
        have h1 := cnt_set (met := met) (k := x.toNat) (by have := hx.1; unfold T.has at this; omega) hx.2.1
        have h2 := ih (t.kid x false) x (met.set x.toNat true) (by rw [List.length_set]; exact hl)
        split
        · have h3 := ih (t.kid x true) x (meetF t n (t.kid x false) x (met.set x.toNat true)).2 (by rw [meetF_len, List.length_set]; exact hl)
          omega
        · simp only; omega
      · exact Nat.le_refl _
theorem N_eq (a b : N) : (a.inn = b.inn ∧ a.red = b.red ∧ a.v = b.v ∧ a.l = b.l ∧ a.r = b.r ∧ a.u = b.u) ↔ a = b := by
  cases a; cases b; simp
instance : DecidableEq N := fun a b => decidable_of_iff _ (N_eq a b)
/-- Is a tree whole? -/
def okN (t : T) (met : List Bool) (i : Nat) : Prop := (t.nd i).inn = met.getD i false ∧ ((t.nd i).inn = true ∨ t.nd i = nE)
def wholeP (t : T) : Prop := t.ns.length ≤ 64 ∧ (meetF t 64 t.root (-1) (List.replicate 64 false)).1 = true ∧ ∀ i : Nat, i < t.ns.length → okN t (meetF t 64 t.root (-1) (List.replicate 64 false)).2 i
instance (t : T) (met : List Bool) (i : Nat) : Decidable (okN t met i) := by unfold okN; infer_instance
instance (t : T) : Decidable (wholeP t) := by unfold wholeP; infer_instance
end Tr
end Go.Proofs.YtpmknpdnhfnfcaaGreatDoor

namespace Go.Proofs.YtpmknpdnhfnfcaaGreatDoor
namespace Tr
open Wd Tn Ky

/-- A tree as one: nothing, or a node: its number, its color, its time, its children (right is true). -/
inductive B where
  | L : B
  | N (i : Int) (c : Bool) (v : Int) (k : Bool → B) : B
/-- The number of its root. -/
def B.rid : B → Int
  | .L => -1
  | .N i _ _ _ => i
def B.isRed : B → Bool
  | .L => false
  | .N _ c _ _ => c
/-- Its keys, in the walk's order. -/
def B.keys : B → List K
  | .L => []
  | .N i _ v k => (k false).keys ++ (v, i) :: (k true).keys
/-- Its nodes' numbers, in the walk's order. -/
def B.ids : B → List Int
  | .L => []
  | .N i _ _ k => (k false).ids ++ i :: (k true).ids
def B.high : B → Nat
  | .L => 0
  | .N _ _ _ k => 1 + max (k false).high (k true).high
/-- How many nodes that are not Red each way has, and whether these are as many on each, and no Red one has a Red child. -/
def B.plain : B → Nat × Bool
  | .L => (0, true)
  | .N _ c _ k =>
    if (k false).plain.2 = true ∧ (k true).plain.2 = true ∧ (k false).plain.1 = (k true).plain.1 then
      if c then ((k false).plain.1, !(k false).isRed && !(k true).isRed) else ((k false).plain.1 + 1, true)
    else (0, false)
theorem B.ids_len : (b : B) → b.ids.length = b.keys.length
  | .L => rfl
  | .N i c v k => by simp only [B.ids, B.keys, List.length_append, List.length_cons, B.ids_len (k false), B.ids_len (k true)]
theorem B.high_le : (b : B) → b.high ≤ b.keys.length
  | .L => Nat.le_refl _
  | .N i c v k => by
    have h1 := B.high_le (k false)
    have h2 := B.high_le (k true)
    simp only [B.high, B.keys, List.length_append, List.length_cons]
    omega
theorem B.plain_le : (b : B) → b.plain.1 ≤ b.keys.length
  | .L => Nat.le_refl _
  | .N i c v k => by
    have h1 := B.plain_le (k false)
    simp only [B.plain, B.keys, List.length_append, List.length_cons]
    split
    · split <;> (simp only; omega)
    · simp only; omega
/-- The nodes from b's root on, which is come by from u, are just b. -/
def Sub (t : T) : B → Int → Prop
  | .L, _ => True
  | .N i c v k, u => t.has i ∧ t.nd i = ⟨true, c, v, (k false).rid, (k true).rid, u⟩ ∧ Sub t (k false) i ∧ Sub t (k true) i
theorem Sub.ok {t : T} {b : B} {u : Int} (h : Sub t b u) : t.ok b.rid := by
  cases b with
  | L => exact .inl rfl
  | N i c v k => exact .inr h.1
theorem Sub.red {t : T} {b : B} {u : Int} (h : Sub t b u) : t.redB b.rid = b.isRed := by
  cases b with
  | L => rfl
  | N i c v k =>
    have : i ≠ -1 := by have := h.1; unfold T.has at this; omega
    simp [T.redB, B.rid, B.isRed, h.2.1, this]
/-- The tree's nodes are just b, all others are empty. -/
structure Whole (t : T) (b : B) : Prop where
  len : t.ns.length ≤ 64
  root : t.root = b.rid
  sub : Sub t b (-1)
  nod : b.ids.Nodup
  rest : ∀ i, t.has i → i ∉ b.ids → t.nd i = nE
theorem Sub.has {t : T} : {b : B} → {u : Int} → Sub t b u → ∀ i ∈ b.ids, t.has i ∧ (t.nd i).inn = true
  | .L, _, _, i, hi => by cases hi
  | .N j c v k, u, h, i, hi => by
    simp only [B.ids, List.mem_append, List.mem_cons] at hi
    rcases hi with hi | rfl | hi
    · exact Sub.has h.2.2.1 i hi
    · exact ⟨h.1, by rw [h.2.1]⟩
    · exact Sub.has h.2.2.2 i hi
theorem Sub.keyU {t : T} (hU : ∀ x ∈ t.ns, U x.v) (hlen : t.ns.length ≤ 64) : {b : B} → {u : Int} → Sub t b u → ∀ x ∈ b.keys, Kin x
  | .L, _, _, x, hx => by cases hx
  | .N j c v k, u, h, x, hx => by
    simp only [B.keys, List.mem_append, List.mem_cons] at hx
    rcases hx with hx | rfl | hx
    · exact Sub.keyU hU hlen h.2.2.1 x hx
    · have h1 := h.1
      unfold T.has at h1
      refine ⟨?_, by unfold I; simp only; omega⟩
      have h2 := h.2.1
      unfold T.nd at h2
      have hm : t.ns.getD j.toNat nE ∈ t.ns := by simp [List.getD, show j.toNat < t.ns.length by omega]
      have := hU _ hm
      rw [h2] at this
      exact this
    · exact Sub.keyU hU hlen h.2.2.2 x hx
theorem nodup_le : (n : Nat) → {l : List Int} → l.Nodup → (∀ i ∈ l, 0 ≤ i ∧ i < n) → l.length ≤ n
  | 0, l, _, hm => by
    cases l with
    | nil => exact Nat.le_refl _
    | cons a l => have := hm a (by simp); omega
  | n + 1, l, h, hm => by
    by_cases hn : (n : Int) ∈ l
    · have h1 := nodup_le n (l := l.erase n) (h.erase _) (fun i hi => by
        have h2 := (h.mem_erase_iff).1 hi
        have h3 := hm i h2.2
        have h4 := h2.1
        omega)
      rw [List.length_erase_of_mem hn] at h1
      omega
    · have h1 := nodup_le n (l := l) h (fun i hi => by
        have h3 := hm i hi
        have h4 : i ≠ n := fun e => hn (e ▸ hi)
        omega)
      omega
theorem Whole.size {t : T} {b : B} (h : Whole t b) : b.keys.length ≤ 64 := by
  rw [← B.ids_len]
  exact Nat.le_trans (nodup_le t.ns.length h.nod (fun i hi => (h.sub.has i hi).1)) h.len
end Tr
end Go.Proofs.YtpmknpdnhfnfcaaGreatDoor

namespace Go.Proofs.YtpmknpdnhfnfcaaGreatDoor
namespace Tr
open Wd Tn Ky

/-- As Sub, whatever In says. -/
def Subm (t : T) : B → Int → Prop
  | .L, _ => True
  | .N i c v k, u => t.has i ∧ (∃ b, t.nd i = ⟨b, c, v, (k false).rid, (k true).rid, u⟩) ∧ Subm t (k false) i ∧ Subm t (k true) i
theorem Subm.has {t : T} : {b : B} → {u : Int} → Subm t b u → ∀ i ∈ b.ids, t.has i
  | .L, _, _, i, hi => by cases hi
  | .N j c v k, u, h, i, hi => by
    simp only [B.ids, List.mem_append, List.mem_cons] at hi
    rcases hi with hi | rfl | hi
    · exact Subm.has h.2.2.1 i hi
    · exact h.1
    · exact Subm.has h.2.2.2 i hi
theorem Sub.subm {t : T} : {b : B} → {u : Int} → Sub t b u → Subm t b u
  | .L, _, _ => trivial
  | .N _ _ _ _, _, h => ⟨h.1, ⟨_, h.2.1⟩, Sub.subm h.2.2.1, Sub.subm h.2.2.2⟩
theorem Subm.sub {t : T} : {b : B} → {u : Int} → Subm t b u → (∀ i ∈ b.ids, (t.nd i).inn = true) → Sub t b u
  | .L, _, _, _ => trivial
  | .N j c v k, u, h, hi => by
    simp only [B.ids, List.mem_append, List.mem_cons] at hi
    obtain ⟨x, hx⟩ := h.2.1
    have : x = true := by have := hi j (.inr (.inl rfl)); rw [hx] at this; exact this
    subst this
    exact ⟨h.1, hx, Subm.sub h.2.2.1 (fun i h' => hi i (.inl h')), Subm.sub h.2.2.2 (fun i h' => hi i (.inr (.inr h')))⟩
/-- What is met behind b. -/
def Behind (met met' : List Bool) (b : B) : Prop := ∀ k : Nat, met'.getD k false = (met.getD k false || decide ((k : Int) ∈ b.ids))
theorem getD_set (met : List Bool) (x k : Nat) (hx : x < met.length) : (met.set x true).getD k false = if k = x then true else met.getD k false := by
  by_cases h : k = x
  · subst h; simp [List.getD, hx]
  · simp [List.getD, h, show ¬ x = k from fun e => h e.symm]
/-- All that is met is a tree as one. -/
theorem meet_tree (t : T) (n : Nat) : ∀ (x u : Int) (met met' : List Bool), t.ns.length ≤ met.length → meetF t n x u met = (true, met') →
    ∃ b : B, b.rid = x ∧ Subm t b u ∧ b.ids.Nodup ∧ (∀ i ∈ b.ids, met.getD i.toNat false = false) ∧ Behind met met' b := by
  have leaf : ∀ (u : Int) (met : List Bool), ∃ b : B, b.rid = -1 ∧ Subm t b u ∧ b.ids.Nodup ∧ (∀ i ∈ b.ids, met.getD i.toNat false = false) ∧ Behind met met b := fun u met =>
    ⟨.L, rfl, trivial, List.nodup_nil, fun i hi => (by cases hi), fun k => by simp [B.ids]⟩
  induction n with
  | zero =>
    intro x u met met' hl h
    simp only [meetF, Prod.mk.injEq, decide_eq_true_eq] at h
    obtain ⟨rfl, rfl⟩ := h
    exact leaf u met
  | succ n ih =>
    intro x u met met' hl h
    unfold meetF at h
    split at h
    · rename_i hx
      subst hx
      obtain ⟨-, rfl⟩ := Prod.mk.inj h
      exact leaf u met
    · rename_i hx
      split at h
      · rename_i hg
        obtain ⟨hh, hm, hu⟩ := hg
        have hxl : x.toNat < met.length := by unfold T.has at hh; omega
        split at h
        · rename_i hok
          have e1 : meetF t n (t.kid x false) x (met.set x.toNat true) = (true, (meetF t n (t.kid x false) x (met.set x.toNat true)).2) := Prod.ext hok rfl
          obtain ⟨b1, r1, s1, d1, f1, m1⟩ := ih _ _ _ _ (by rw [List.length_set]; exact hl) e1
          obtain ⟨b2, r2, s2, d2, f2, m2⟩ := ih _ _ _ _ (by rw [meetF_len, List.length_set]; exact hl) h
          have g1 : ∀ i ∈ b1.ids, 0 ≤ i ∧ i ≠ x ∧ met.getD i.toNat false = false := fun i hi => by
            have h1 := f1 i hi
            rw [getD_set _ _ _ hxl] at h1
            have h2 := s1.has i hi
            unfold T.has at h2 hh
            split at h1
            · cases h1
            · exact ⟨h2.1, by omega, h1⟩
          have g2 : ∀ i ∈ b2.ids, 0 ≤ i ∧ i ≠ x ∧ i ∉ b1.ids ∧ met.getD i.toNat false = false := fun i hi => by
            have h1 := f2 i hi
            rw [m1, getD_set _ _ _ hxl, Bool.or_eq_false_iff] at h1
            have h2 := s2.has i hi
            unfold T.has at h2 hh
            obtain ⟨h3, h4⟩ := h1
            rw [show ((i.toNat : Nat) : Int) = i by omega] at h4
            split at h3
            · cases h3
            · exact ⟨h2.1, by omega, by simpa using h4, h3⟩
          refine ⟨.N x (t.nd x).red (t.nd x).v (fun s => if s then b2 else b1), rfl, ⟨hh, ⟨(t.nd x).inn, ?_⟩, s1, s2⟩, ?_, ?_, ?_⟩
          · simp only [r1, r2, if_true, if_false, Bool.false_eq_true]
            rw [← N_eq]
            exact ⟨rfl, rfl, rfl, rfl, rfl, hu⟩
          · simp only [B.ids, if_true, if_false, Bool.false_eq_true]
            rw [List.nodup_append]
            refine ⟨d1, List.nodup_cons.2 ⟨fun h' => (g2 x h').2.1 rfl, d2⟩, ?_⟩
            intro a ha c hc e
            subst e
            rcases List.mem_cons.1 hc with rfl | hc
            · exact (g1 a ha).2.1 rfl
            · exact (g2 a hc).2.2.1 ha
          · intro i hi
            simp only [B.ids, if_true, if_false, Bool.false_eq_true, List.mem_append, List.mem_cons] at hi
            rcases hi with hi | rfl | hi
            · exact (g1 i hi).2.2
            · exact hm
            · exact (g2 i hi).2.2.2
          · intro k
            rw [m2, m1, getD_set _ _ _ hxl]
            simp only [B.ids, if_true, if_false, Bool.false_eq_true, List.mem_append, List.mem_cons]
            unfold T.has at hh
            by_cases hk : k = x.toNat
            · have : (k : Int) = x := by omega
              rw [if_pos hk]
              simp [this]
            · have : ¬ (k : Int) = x := by omega
              rw [if_neg hk]
              by_cases h1 : (k : Int) ∈ b1.ids <;> by_cases h2 : (k : Int) ∈ b2.ids <;> simp [h1, h2, this]
        · cases (Prod.mk.inj h).1
      · cases (Prod.mk.inj h).1
/-- A tree as one is met whole. -/
theorem tree_meet (t : T) : (b : B) → ∀ (u : Int) (n : Nat) (met : List Bool), t.ns.length ≤ met.length → Subm t b u → b.ids.Nodup → (∀ i ∈ b.ids, met.getD i.toNat false = false) → b.ids.length ≤ n →
    ∃ met', meetF t n b.rid u met = (true, met') ∧ Behind met met' b
  | .L, u, n, met, hl, hs, hd, hf, hn => by
    refine ⟨met, ?_, fun k => by simp [B.ids]⟩
    cases n with
    | zero => rfl
    | succ n => simp [meetF, B.rid]
  | .N i c v k, u, n, met, hl, hs, hd, hf, hn => by
    simp only [B.ids, List.length_append, List.length_cons] at hn
    obtain ⟨n, rfl⟩ : ∃ m, n = m + 1 := ⟨n - 1, by omega⟩
    obtain ⟨hi, ⟨x, hx⟩, s1, s2⟩ := hs
    simp only [B.ids] at hd
    rw [List.nodup_append] at hd
    obtain ⟨d1, d2, d3⟩ := hd
    obtain ⟨d4, d5⟩ := List.nodup_cons.1 d2
    simp only [B.ids, List.mem_append, List.mem_cons] at hf
    have hxl : i.toNat < met.length := by unfold T.has at hi; omega
    have hne1 : ∀ j ∈ (k false).ids, j ≠ i := fun j hj e => d3 j hj i (by simp) e
    have hne2 : ∀ j ∈ (k true).ids, j ≠ i := fun j hj e => d4 (e ▸ hj)
    have nn : ∀ (s : Bool) j, j ∈ (k s).ids → 0 ≤ j := fun s j hj => by
      cases s
      · exact (s1.has j hj).1
      · exact (s2.has j hj).1
    obtain ⟨m1, e1, b1⟩ := tree_meet t (k false) i n (met.set i.toNat true) (by rw [List.length_set]; exact hl) s1 d1 (fun j hj => by
      rw [getD_set _ _ _ hxl, if_neg (by have := nn false j hj; have := hne1 j hj; unfold T.has at hi; omega)]
      exact hf j (.inl hj)) (by omega)
    have hl1 : t.ns.length ≤ m1.length := by
      have := meetF_len t n (k false).rid i (met.set i.toNat true)
      rw [e1, List.length_set] at this
      simp only at this
      omega
    obtain ⟨m2, e2, b2⟩ := tree_meet t (k true) i n m1 hl1 s2 d5 (fun j hj => by
      rw [b1, getD_set _ _ _ hxl, if_neg (by have := nn true j hj; have := hne2 j hj; unfold T.has at hi; omega), hf j (.inr (.inr hj))]
      have hj0 := nn true j hj
      rw [show ((j.toNat : Nat) : Int) = j by omega]
      have : j ∉ (k false).ids := fun h => d3 j h j (List.mem_cons_of_mem _ hj) rfl
      simp [this]) (by omega)
    refine ⟨m2, ?_, ?_⟩
    · unfold meetF
      have hi1 : i ≠ -1 := by unfold T.has at hi; omega
      rw [B.rid, if_neg hi1, if_pos ⟨hi, hf i (.inr (.inl rfl)), by unfold T.up; rw [hx]⟩]
      have k1 : t.kid i false = (k false).rid := by unfold T.kid N.kid; rw [hx]; rfl
      have k2 : t.kid i true = (k true).rid := by unfold T.kid N.kid; rw [hx]; rfl
      rw [k1, k2, e1]
      simp only [if_true]
      exact e2
    · intro q
      rw [b2, b1, getD_set _ _ _ hxl]
      simp only [B.ids, List.mem_append, List.mem_cons]
      unfold T.has at hi
      by_cases hk : q = i.toNat
      · have : (q : Int) = i := by omega
        rw [if_pos hk]
        simp [this]
      · have : ¬ (q : Int) = i := by omega
        rw [if_neg hk]
        by_cases h1 : (q : Int) ∈ (k false).ids <;> by_cases h2 : (q : Int) ∈ (k true).ids <;> simp [h1, h2, this]
/-- A tree is whole just if it is one. -/
theorem whole_iff (t : T) : wholeP t ↔ ∃ b, Whole t b := by
  constructor
  · rintro ⟨hl, hok, hall⟩
    have e1 : meetF t 64 t.root (-1) (List.replicate 64 false) = (true, (meetF t 64 t.root (-1) (List.replicate 64 false)).2) := Prod.ext hok rfl
    obtain ⟨b, hr, hs, hd, -, hm⟩ := meet_tree t 64 _ _ _ _ (by rw [List.length_replicate]; exact hl) e1
    have hin : ∀ i, t.has i → okN t (meetF t 64 t.root (-1) (List.replicate 64 false)).2 i.toNat := fun i hi => hall i.toNat (by unfold T.has at hi; omega)
    have key : ∀ i, t.has i → ((t.nd i).inn = decide (i ∈ b.ids)) ∧ ((t.nd i).inn = true ∨ t.nd i = nE) := fun i hi => by
      obtain ⟨h1, h2⟩ := hin i hi
      have e : ((i.toNat : Nat) : Int) = i := by unfold T.has at hi; omega
      rw [hm, e] at h1
      rw [e] at h2
      have hz : (List.replicate 64 false).getD i.toNat false = false := by
        rw [List.getD, List.getElem?_replicate]
        split <;> rfl
      rw [hz, Bool.false_or] at h1
      exact ⟨h1, h2⟩
    refine ⟨b, hl, hr.symm, hs.sub (fun i hi => ?_), hd, fun i hi hn => ?_⟩
    · rw [(key i (hs.has i hi)).1]; simpa using hi
    · rcases (key i hi).2 with h | h
      · rw [(key i hi).1] at h; exact absurd (by simpa using h) hn
      · exact h
  · rintro ⟨b, h⟩
    have hz : ∀ k : Nat, (List.replicate 64 false).getD k false = false := fun k => by
      rw [List.getD, List.getElem?_replicate]
      split <;> rfl
    obtain ⟨met', e, hm⟩ := tree_meet t b (-1) 64 (List.replicate 64 false) (by rw [List.length_replicate]; exact h.len) h.sub.subm h.nod (fun i _ => hz _) (by rw [B.ids_len]; exact h.size)
    rw [← h.root] at e
    refine ⟨h.len, by rw [e], fun i hi => ?_⟩
    rw [e]
    have hh : t.has i := by unfold T.has; omega
    unfold okN
    simp only
    rw [hm, hz, Bool.false_or]
    by_cases hin : (i : Int) ∈ b.ids
    · rw [(h.sub.has _ hin).2]
      exact ⟨by simpa using hin, .inl rfl⟩
    · rw [h.rest i hh hin]
      exact ⟨by simp [hin, nE], .inr rfl⟩
end Tr
end Go.Proofs.YtpmknpdnhfnfcaaGreatDoor

namespace Go.Proofs.YtpmknpdnhfnfcaaGreatDoor
namespace Tr
open Wd Tn Ky

theorem Sub.unique {t : T} : {b b' : B} → {u u' : Int} → Sub t b u → Sub t b' u' → b.rid = b'.rid → b = b'
  | .L, .L, _, _, _, _, _ => rfl
  | .L, .N i c v k, _, _, _, h, e => by have := h.1; unfold T.has at this; simp only [B.rid] at e; omega
  | .N i c v k, .L, _, _, h, _, e => by have := h.1; unfold T.has at this; simp only [B.rid] at e; omega
  | .N i c v k, .N i' c' v' k', u, u', h, h', e => by
    simp only [B.rid] at e
    subst e
    have e2 := h.2.1.symm.trans h'.2.1
    rw [← N_eq] at e2
    obtain ⟨-, rfl, rfl, e3, e4, -⟩ := e2
    have h1 := Sub.unique h.2.2.1 h'.2.2.1 e3
    have h2 := Sub.unique h.2.2.2 h'.2.2.2 e4
    congr 1
    funext s
    cases s
    · exact h1
    · exact h2
theorem Whole.unique {t : T} {b b' : B} (h : Whole t b) (h' : Whole t b') : b = b' := h.sub.unique h'.sub (h.root.symm.trans h'.root)
/-- Right, by m. -/
def RightB (m : Int) (b : B) : Prop := b.isRed = false ∧ okK m b.keys ∧ b.plain.2 = true
instance (m : Int) (b : B) : Decidable (RightB m b) := by unfold RightB; infer_instance
def RightP (m : Int) (t : T) : Prop := ∃ b, Whole t b ∧ RightB m b
theorem rightP_iff {m : Int} {t : T} {b : B} (h : Whole t b) : RightP m t ↔ RightB m b :=
  ⟨fun ⟨b', h', hr⟩ => by rw [h.unique h']; exact hr, fun hr => ⟨b, h, hr⟩⟩
end Tr
end Go.Proofs.YtpmknpdnhfnfcaaGreatDoor

namespace Go.Proofs.YtpmknpdnhfnfcaaGreatDoor
namespace Tr
open Wd Tn Ky

/-- A node by its sides: x on the side s, o on the other. -/
def bn (s : Bool) (i : Int) (c : Bool) (v : Int) (x o : B) : B := .N i c v fun b => if b = s then x else o
theorem bn_swap (s : Bool) (i : Int) (c : Bool) (v : Int) (x o : B) : bn s i c v x o = bn (!s) i c v o x := by
  unfold bn
  congr 1
  funext b
  cases b <;> cases s <;> rfl
theorem bn_eta (s : Bool) (i : Int) (c : Bool) (v : Int) (k : Bool → B) : B.N i c v k = bn s i c v (k s) (k (!s)) := by
  unfold bn
  congr 1
  funext b
  cases b <;> cases s <;> rfl
/-- A step of the way down to a place: on which side of which node, and the other child. -/
structure F where
  s : Bool
  i : Int
  c : Bool
  v : Int
  o : B
def F.put (f : F) (x : B) : B := bn f.s f.i f.c f.v x f.o
def plug : B → List F → B
  | b, [] => b
  | b, f :: fs => plug (f.put b) fs
def upOf : List F → Int
  | [] => -1
  | f :: _ => f.i
def idsC : List F → List Int
  | [] => []
  | f :: fs => f.i :: (f.o.ids ++ idsC fs)
/-- What a node by its sides is in memory. -/
def nodeOf (s c : Bool) (v x o u : Int) : N := ⟨true, c, v, if s then o else x, if s then x else o, u⟩
def SubC (t : T) : List F → Int → Prop
  | [], x => t.root = x
  | f :: fs, x => t.has f.i ∧ t.nd f.i = nodeOf f.s f.c f.v x f.o.rid (upOf fs) ∧ Sub t f.o f.i ∧ SubC t fs f.i
theorem Sub_bn (t : T) (s : Bool) (i : Int) (c : Bool) (v : Int) (x o : B) (u : Int) : Sub t (bn s i c v x o) u ↔ t.has i ∧ t.nd i = nodeOf s c v x.rid o.rid u ∧ Sub t x i ∧ Sub t o i := by
  cases s
  · simp [bn, Sub, nodeOf]
  · simp [bn, Sub, nodeOf, and_comm]
theorem ids_bn (s : Bool) (i : Int) (c : Bool) (v : Int) (x o : B) : (bn s i c v x o).ids.Perm (x.ids ++ i :: o.ids) := by
  cases s
  · simp [bn, B.ids]
  · simp only [bn, B.ids, if_true, Bool.false_eq_true, if_false]
    refine List.perm_append_comm.trans ?_
    simp only [List.cons_append]
    exact (List.perm_middle.symm)
/-- All of it, seen from a place. -/
structure Z (t : T) (b : B) (fs : List F) : Prop where
  len : t.ns.length ≤ 64
  sub : Sub t b (upOf fs)
  ctx : SubC t fs b.rid
  nod : (b.ids ++ idsC fs).Nodup
  rest : ∀ i, t.has i → i ∉ b.ids → i ∉ idsC fs → t.nd i = nE
theorem Z_whole (t : T) (b : B) : Z t b [] ↔ Whole t b :=
  ⟨fun h => ⟨h.len, h.ctx, h.sub, by simpa [idsC] using h.nod, fun i hi hn => h.rest i hi hn (by simp [idsC])⟩, fun h => ⟨h.len, h.sub, h.root, by simpa [idsC] using h.nod, fun i hi hn _ => h.rest i hi hn⟩⟩
theorem Z_step (t : T) (b : B) (f : F) (fs : List F) : Z t b (f :: fs) ↔ Z t (f.put b) fs := by
  have hp : (b.ids ++ idsC (f :: fs)).Perm ((f.put b).ids ++ idsC fs) := by
    have h1 := (ids_bn f.s f.i f.c f.v b f.o).symm.append_right (idsC fs)
    have e : b.ids ++ idsC (f :: fs) = b.ids ++ f.i :: f.o.ids ++ idsC fs := by simp [idsC]
    rw [e]
    exact h1
  have hm : ∀ i, (i ∉ (f.put b).ids ∧ i ∉ idsC fs) ↔ (i ∉ b.ids ∧ i ∉ idsC (f :: fs)) := fun i => by
    have := hp.mem_iff (a := i)
    rw [List.mem_append, List.mem_append] at this
    rw [← not_or, ← not_or, this]
  constructor
  · intro h
    obtain ⟨h1, h2, h3, h4⟩ := h.ctx
    exact ⟨h.len, (Sub_bn ..).2 ⟨h1, h2, h.sub, h3⟩, h4, hp.nodup_iff.1 h.nod, fun i hi n1 n2 => h.rest i hi ((hm i).1 ⟨n1, n2⟩).1 ((hm i).1 ⟨n1, n2⟩).2⟩
  · intro h
    obtain ⟨h1, h2, h3, h4⟩ := (Sub_bn ..).1 h.sub
    exact ⟨h.len, h3, ⟨h1, h2, h4, h.ctx⟩, hp.nodup_iff.2 h.nod, fun i hi n1 n2 => h.rest i hi ((hm i).2 ⟨n1, n2⟩).1 ((hm i).2 ⟨n1, n2⟩).2⟩
theorem Z_plug (t : T) (b : B) (fs : List F) : Z t b fs ↔ Whole t (plug b fs) := by
  induction fs generalizing b with
  | nil => exact Z_whole t b
  | cons f fs ih => rw [Z_step, ih]; rfl

/-! ### What a change elsewhere leaves -/
theorem Sub.congr {t t' : T} (hl : t'.ns.length = t.ns.length) : {b : B} → {u : Int} → (∀ j ∈ b.ids, t'.nd j = t.nd j) → Sub t b u → Sub t' b u
  | .L, _, _, _ => trivial
  | .N i c v k, u, hc, h => by
    simp only [B.ids, List.mem_append, List.mem_cons] at hc
    exact ⟨(has_len hl).2 h.1, (hc i (.inr (.inl rfl))).trans h.2.1, Sub.congr hl (fun j hj => hc j (.inl hj)) h.2.2.1, Sub.congr hl (fun j hj => hc j (.inr (.inr hj))) h.2.2.2⟩
/-- Only the root has another Up. -/
theorem Sub.congrUp {t t' : T} (hl : t'.ns.length = t.ns.length) {b : B} {u u' : Int} (hd : b.ids.Nodup) (hc : ∀ j ∈ b.ids, j ≠ b.rid → t'.nd j = t.nd j) (hr : b.rid ≠ -1 → t'.nd b.rid = (t.nd b.rid).setUp u') (h : Sub t b u) : Sub t' b u' := by
  cases b with
  | L => trivial
  | N i c v k =>
    simp only [B.ids] at hd
    rw [List.nodup_append] at hd
    obtain ⟨_, d2, d3⟩ := hd
    obtain ⟨d4, _⟩ := List.nodup_cons.1 d2
    simp only [B.ids, List.mem_append, List.mem_cons] at hc
    have hi : i ≠ -1 := by have := h.1; unfold T.has at this; omega
    refine ⟨(has_len hl).2 h.1, ?_, Sub.congr hl (fun j hj => hc j (.inl hj) (fun e => d3 j hj i (by simp) e)) h.2.2.1, Sub.congr hl (fun j hj => hc j (.inr (.inr hj)) (fun e => d4 (by rw [B.rid] at e; exact e ▸ hj))) h.2.2.2⟩
    have := hr hi
    rw [show (B.N i c v k).rid = i from rfl, h.2.1] at this
    exact this
theorem SubC.congr {t t' : T} (hl : t'.ns.length = t.ns.length) (hr : t'.root = t.root) : {fs : List F} → {x : Int} → (∀ j ∈ idsC fs, t'.nd j = t.nd j) → SubC t fs x → SubC t' fs x
  | [], _, _, h => hr.trans h
  | f :: fs, x, hc, h => by
    simp only [idsC, List.mem_cons, List.mem_append] at hc
    exact ⟨(has_len hl).2 h.1, (hc f.i (.inl rfl)).trans h.2.1, Sub.congr hl (fun j hj => hc j (.inr (.inl hj))) h.2.2.1, SubC.congr hl hr (fun j hj => hc j (.inr (.inr hj))) h.2.2.2⟩
/-- Another one stands at the place. -/
theorem SubC.put {t t' : T} (hl : t'.ns.length = t.ns.length) {fs : List F} {x y : Int} (hd : (idsC fs).Nodup) (hc : ∀ j ∈ idsC fs, j ≠ upOf fs → t'.nd j = t.nd j)
    (hr : t'.root = if upOf fs = -1 then y else t.root) (hu : ∀ f gs, fs = f :: gs → t'.nd f.i = (t.nd f.i).setKid f.s y) (h : SubC t fs x) : SubC t' fs y := by
  cases fs with
  | nil => simpa [upOf, SubC] using hr
  | cons f fs =>
    simp only [idsC] at hd
    obtain ⟨d1, d2⟩ := List.nodup_cons.1 hd
    have hi : f.i ≠ -1 := by have := h.1; unfold T.has at this; omega
    rw [if_neg (show upOf (f :: fs) ≠ -1 from hi)] at hr
    simp only [idsC, List.mem_cons, List.mem_append, upOf] at hc
    refine ⟨(has_len hl).2 h.1, ?_, Sub.congr hl (fun j hj => hc j (.inr (.inl hj)) (fun e => d1 (List.mem_append.2 (.inl (e ▸ hj))))) h.2.2.1, SubC.congr hl hr (fun j hj => hc j (.inr (.inr hj)) (fun e => d1 (List.mem_append.2 (.inr (e ▸ hj))))) h.2.2.2⟩
    rw [hu f fs rfl, h.2.1]
    unfold N.setKid nodeOf
    cases f.s <;> rfl

/-! ### What a place tells -/
theorem Z.side {t : T} {b : B} {f : F} {fs : List F} (h : Z t b (f :: fs)) (hb : b.rid ≠ -1) : t.up b.rid = f.i ∧ t.side b.rid = f.s ∧ t.has b.rid := by
  have hd := h.nod
  cases b with
  | L => exact absurd rfl hb
  | N i c v k =>
    obtain ⟨s1, s2, -⟩ := h.sub
    obtain ⟨c1, c2, -⟩ := h.ctx
    have e1 : t.up i = f.i := by unfold T.up; rw [s2]; rfl
    have hfi : f.i ≠ -1 := by unfold T.has at c1; omega
    refine ⟨e1, ?_, s1⟩
    show t.side i = f.s
    unfold T.side
    rw [e1, decide_eq_true hfi, Bool.true_and]
    have e2 : t.kid f.i true = if f.s then i else f.o.rid := by unfold T.kid N.kid; rw [c2]; rfl
    rw [e2]
    cases hs : f.s
    · simp only [Bool.false_eq_true, if_false, decide_eq_false_iff_not]
      intro e
      cases ho : f.o with
      | L => rw [ho] at e; simp only [B.rid] at e; unfold T.has at s1; omega
      | N j c' v' k' =>
        rw [ho] at e
        simp only [B.rid] at e
        subst e
        rw [List.nodup_append] at hd
        refine hd.2.2 j ?_ j ?_ rfl
        · simp [B.ids]
        · simp [idsC, ho, B.ids]
    · simp
theorem Z.top {t : T} {b : B} (h : Z t b []) : t.root = b.rid ∧ (b.rid ≠ -1 → t.up b.rid = -1) := by
  refine ⟨h.ctx, fun hb => ?_⟩
  cases b with
  | L => exact absurd rfl hb
  | N i c v k => obtain ⟨-, s2, -⟩ := h.sub; show (t.nd i).u = -1; rw [s2]; rfl
end Tr
end Go.Proofs.YtpmknpdnhfnfcaaGreatDoor

namespace Go.Proofs.YtpmknpdnhfnfcaaGreatDoor
namespace Tr
open Wd Tn Ky

theorem nd_put {t : T} {i : Int} (hi : t.has i) (n : N) {j : Int} (hj : 0 ≤ j) : (t.put i n).nd j = if j = i then n else t.nd j := by
  by_cases h : j = i
  · subst h; rw [if_pos rfl, nd_put_same hi]
  · rw [if_neg h, nd_put_other hi.1 hj (fun e => h e.symm)]
theorem nd_setKid {t : T} {u : Int} (hu : t.ok u) (s : Bool) (y : Int) {j : Int} (hj : 0 ≤ j) : (t.setKid u s y).nd j = if j = u then (t.nd j).setKid s y else t.nd j := by
  unfold T.setKid
  rcases hu with rfl | hu
  · rw [if_pos rfl, if_neg (by omega)]; rfl
  · rw [if_neg (has_ne hu), nd_put hu _ hj]
    by_cases h : j = u
    · subst h; rw [if_pos rfl]
    · rw [if_neg h, if_neg h]
theorem nd_setUp {t : T} {y : Int} (hy : t.ok y) (u : Int) {j : Int} (hj : 0 ≤ j) : (t.setUp y u).nd j = if j = y then (t.nd j).setUp u else t.nd j := by
  unfold T.setUp
  rcases hy with rfl | hy
  · rw [if_pos rfl, if_neg (by omega)]
  · rw [if_neg (has_ne hy), nd_put hy _ hj]
    by_cases h : j = y
    · subst h; rw [if_pos rfl]
    · rw [if_neg h, if_neg h]
theorem nd_hang {t : T} {u y : Int} (hu : t.ok u) (hy : t.ok y) (s : Bool) {j : Int} (hj : 0 ≤ j) :
    (t.hang u s y).nd j = if j = y then (if j = u then (t.nd j).setKid s y else t.nd j).setUp u else (if j = u then (t.nd j).setKid s y else t.nd j) := by
  unfold T.hang
  rw [nd_setUp ((ok_len (setKid_len _ _ _ _)).2 hy) u hj, nd_setKid hu s y hj]
theorem root_hang (t : T) (u : Int) (s : Bool) (y : Int) : (t.hang u s y).root = if u = -1 then y else t.root := by
  unfold T.hang T.setUp T.setKid
  split <;> split <;> rfl
theorem nodeOf_kid (s c : Bool) (v x o u : Int) : (nodeOf s c v x o u).kid s = x ∧ (nodeOf s c v x o u).kid (!s) = o ∧ (nodeOf s c v x o u).u = u ∧ (nodeOf s c v x o u).red = c := by
  cases s <;> exact ⟨rfl, rfl, rfl, rfl⟩
theorem nodeOf_setKid (s c : Bool) (v x o u y : Int) : (nodeOf s c v x o u).setKid s y = nodeOf s c v y o u ∧ (nodeOf s c v x o u).setKid (!s) y = nodeOf s c v x y u ∧ (nodeOf s c v x o u).setUp y = nodeOf s c v x o y ∧ ∀ b, (nodeOf s c v x o u).setRed b = nodeOf s b v x o u := by
  cases s <;> exact ⟨rfl, rfl, rfl, fun _ => rfl⟩
theorem rid_mem (b : B) : b.rid = -1 ∨ b.rid ∈ b.ids := by
  cases b with
  | L => exact .inl rfl
  | N i c v k => exact .inr (by simp [B.rid, B.ids])
theorem upOf_mem (fs : List F) : upOf fs = -1 ∨ upOf fs ∈ idsC fs := by
  cases fs with
  | nil => exact .inl rfl
  | cons f fs => exact .inr (by simp [upOf, idsC])
theorem SubC.ok {t : T} {fs : List F} {x : Int} (h : SubC t fs x) : t.ok (upOf fs) := by
  cases fs with
  | nil => exact .inl rfl
  | cons f fs => exact .inr h.1
theorem SubC.has {t : T} : {fs : List F} → {x : Int} → SubC t fs x → ∀ i ∈ idsC fs, t.has i
  | [], _, _, i, hi => by cases hi
  | f :: fs, x, h, i, hi => by
    simp only [idsC, List.mem_cons, List.mem_append] at hi
    rcases hi with rfl | hi | hi
    · exact h.1
    · exact (h.2.2.1.has i hi).1
    · exact SubC.has h.2.2.2 i hi
theorem Z.has {t : T} {b : B} {fs : List F} (h : Z t b fs) : ∀ i, i ∈ b.ids ∨ i ∈ idsC fs → t.has i := fun i hi => hi.elim (fun hi => (h.sub.has i hi).1) (h.ctx.has i)

/-- The root of what stands at the place is painted. -/
theorem Z.paint {t : T} {s : Bool} {i : Int} {c : Bool} {v : Int} {x o : B} {fs : List F} (h : Z t (bn s i c v x o) fs) (c' : Bool) : Z (t.paint i c') (bn s i c' v x o) fs := by
  obtain ⟨h1, h2, h3, h4⟩ := (Sub_bn ..).1 h.sub
  have hl : (t.paint i c').ns.length = t.ns.length := paint_len _ _ _
  have hn := (((ids_bn s i c v x o).append_right (idsC fs)).nodup_iff).1 h.nod
  rw [List.append_assoc, List.cons_append, List.nodup_append] at hn
  obtain ⟨n1, n2, n3⟩ := hn
  obtain ⟨n4, n5⟩ := List.nodup_cons.1 n2
  have e : ∀ j, t.has j → j ≠ i → (t.paint i c').nd j = t.nd j := fun j hj hne => by
    show (t.put i _).nd j = _
    rw [nd_put h1 _ hj.1, if_neg hne]
  refine ⟨by rw [hl]; exact h.len, (Sub_bn ..).2 ⟨(has_len hl).2 h1, ?_, Sub.congr hl (fun j hj => e j (h3.has j hj).1 (fun q => n3 j hj i (by simp) q)) h3, Sub.congr hl (fun j hj => e j (h4.has j hj).1 (fun q => n4 (by rw [← q]; exact List.mem_append.2 (.inl hj)))) h4⟩,
    SubC.congr hl rfl (fun j hj => e j (h.ctx.has j hj) (fun q => n4 (by rw [← q]; exact List.mem_append.2 (.inr hj)))) h.ctx, h.nod, fun j hj m1 m2 => ?_⟩
  · show (t.put i _).nd i = _
    rw [nd_put h1 _ h1.1, if_pos rfl, h2]
    exact (nodeOf_setKid s c v x.rid o.rid (upOf fs) 0).2.2.2 c'
  · have hj' := (has_len hl).1 hj
    have hji : j ≠ i := fun q => m1 (by rw [q]; simp [bn, B.ids])
    rw [e j hj' hji]
    exact h.rest j hj' m1 m2

set_option maxHeartbeats 1000000 in
/-- What stands at the place is turned. -/
theorem Z.turn {t : T} {s : Bool} {x : Int} {c : Bool} {v : Int} {y : Int} {c' : Bool} {v' : Int} {A M D : B} {fs : List F} (h : Z t (bn s x c v A (bn s y c' v' M D)) fs) :
    TurnOk t x s ∧ Z (t.turn x s) (bn s y c' v' (bn s x c v A M) D) fs := by
  obtain ⟨h1, h2, h3, h4⟩ := (Sub_bn ..).1 h.sub
  obtain ⟨k1, k2, k3, k4⟩ := (Sub_bn ..).1 h4
  have hp : ((bn s x c v A (bn s y c' v' M D)).ids ++ idsC fs).Perm (A.ids ++ (x :: (M.ids ++ (y :: (D.ids ++ idsC fs))))) := by
    refine ((ids_bn s x c v A _).append_right _).trans ?_
    rw [List.append_assoc, List.cons_append]
    refine List.Perm.append_left _ (List.Perm.cons _ ?_)
    refine ((ids_bn s y c' v' M D).append_right _).trans ?_
    rw [List.append_assoc, List.cons_append]
  have hp' : ((bn s y c' v' (bn s x c v A M) D).ids ++ idsC fs).Perm (A.ids ++ (x :: (M.ids ++ (y :: (D.ids ++ idsC fs))))) := by
    refine ((ids_bn s y c' v' _ D).append_right _).trans ?_
    refine (((ids_bn s x c v A M).append_right _).append_right _).trans ?_
    simp
  have hnod := hp.nodup_iff.1 h.nod
  have hn := hnod
  rw [List.nodup_append] at hn
  obtain ⟨nA, n2, n3⟩ := hn
  obtain ⟨n4, n5⟩ := List.nodup_cons.1 n2
  rw [List.nodup_append] at n5
  obtain ⟨nM, n6, n7⟩ := n5
  obtain ⟨n8, n9⟩ := List.nodup_cons.1 n6
  rw [List.nodup_append] at n9
  obtain ⟨nD, nC, n10⟩ := n9
  have hu := h.ctx.ok
  obtain ⟨m, hm⟩ : ∃ m, M.rid = m := ⟨_, rfl⟩
  obtain ⟨u, hu0⟩ : ∃ u, upOf fs = u := ⟨_, rfl⟩
  have kk := nodeOf_kid s c v A.rid y (upOf fs)
  have kk' := nodeOf_kid s c' v' M.rid D.rid x
  have ek : t.kid x (!s) = y := by unfold T.kid; rw [h2]; exact kk.2.1
  have eu : t.up x = u := by unfold T.up; rw [h2, ← hu0]; exact kk.2.2.1
  have em : t.kid y s = m := by unfold T.kid; rw [k2, kk'.1, hm]
  have hmo : t.ok m := by rw [← hm]; exact k3.ok
  rw [hu0] at hu
  have hxy : x ≠ y := fun e => n4 (by rw [e]; simp)
  have hmm : m = -1 ∨ m ∈ M.ids := by rw [← hm]; exact rid_mem M
  have huu : u = -1 ∨ u ∈ idsC fs := by rw [← hu0]; exact upOf_mem fs
  have hx0 := h1.1
  have hy0 := k1.1
  have hxm : x ≠ m := fun e => hmm.elim (fun q => by omega) (fun q => n4 (by rw [e]; exact List.mem_append.2 (.inl q)))
  have hym : y ≠ m := fun e => hmm.elim (fun q => by omega) (fun q => n7 m q y (by simp) e.symm)
  have hxu : x ≠ u := fun e => huu.elim (fun q => by omega) (fun q => n4 (by rw [e]; simp [q]))
  have hyu : y ≠ u := fun e => huu.elim (fun q => by omega) (fun q => n8 (by rw [e]; simp [q]))
  refine ⟨⟨h1, by rw [eu]; exact hu, by rw [ek]; exact k1, by rw [ek, em]; exact hmo⟩, ?_⟩
  obtain ⟨a, ha⟩ : ∃ a, t.side x = a := ⟨_, rfl⟩
  have et : t.turn x s = ((t.hang x (!s) m).hang u a y).hang y s x := by unfold T.turn; rw [ek, em, eu, ha]
  rw [et]
  have l1 : (t.hang x (!s) m).ns.length = t.ns.length := hang_len _ _ _ _
  have l2 : ((t.hang x (!s) m).hang u a y).ns.length = t.ns.length := (hang_len _ _ _ _).trans l1
  have l3 : (((t.hang x (!s) m).hang u a y).hang y s x).ns.length = t.ns.length := (hang_len _ _ _ _).trans l2
  have nd1 : ∀ {j : Int}, 0 ≤ j → (t.hang x (!s) m).nd j = _ := fun hj => nd_hang (.inr h1) hmo (!s) hj
  have nd2 : ∀ {j : Int}, 0 ≤ j → ((t.hang x (!s) m).hang u a y).nd j = _ := fun hj => nd_hang ((ok_len l1).2 hu) (.inr ((has_len l1).2 k1)) a hj
  have nd3 : ∀ {j : Int}, 0 ≤ j → (((t.hang x (!s) m).hang u a y).hang y s x).nd j = _ := fun hj => nd_hang (.inr ((has_len l2).2 k1)) (.inr ((has_len l2).2 h1)) s hj
  have other : ∀ j, 0 ≤ j → j ≠ x → j ≠ y → j ≠ m → j ≠ u → (((t.hang x (!s) m).hang u a y).hang y s x).nd j = t.nd j := fun j hj e1 e2 e3 e4 => by
    rw [nd3 hj, if_neg e1, if_neg e2, nd2 hj, if_neg e2, if_neg e4, nd1 hj, if_neg e3, if_neg e1]
  have ex : (((t.hang x (!s) m).hang u a y).hang y s x).nd x = nodeOf s c v A.rid m y := by
    rw [nd3 hx0, if_pos rfl, if_neg hxy, nd2 hx0, if_neg hxy, if_neg hxu, nd1 hx0, if_neg hxm, if_pos rfl, h2]
    have := nodeOf_setKid s c v A.rid y (upOf fs) m
    rw [show (bn s y c' v' M D).rid = y from rfl, this.2.1]
    exact (nodeOf_setKid s c v A.rid m (upOf fs) y).2.2.1
  have ey : (((t.hang x (!s) m).hang u a y).hang y s x).nd y = nodeOf s c' v' x D.rid u := by
    rw [nd3 hy0, if_neg (fun e => hxy e.symm), if_pos rfl, nd2 hy0, if_pos rfl, if_neg hyu, nd1 hy0, if_neg hym, if_neg (fun e => hxy e.symm), k2]
    rw [(nodeOf_setKid s c' v' M.rid D.rid x u).2.2.1]
    exact (nodeOf_setKid s c' v' M.rid D.rid u x).1
  have emm : m ≠ -1 → (((t.hang x (!s) m).hang u a y).hang y s x).nd m = (t.nd m).setUp x := fun hne => by
    have hm0 : 0 ≤ m := (hmo.resolve_left hne).1
    have hmu : m ≠ u := fun e => by
      have q := hmm.resolve_left hne
      rcases huu with w | w
      · exact hne (e.trans w)
      · exact n7 m q u (by simp [w]) e
    rw [nd3 hm0, if_neg (fun e => hxm e.symm), if_neg (fun e => hym e.symm), nd2 hm0, if_neg (fun e => hym e.symm), if_neg hmu, nd1 hm0, if_pos rfl, if_neg (fun e => hxm e.symm)]
  have euu : u ≠ -1 → (((t.hang x (!s) m).hang u a y).hang y s x).nd u = (t.nd u).setKid a y := fun hne => by
    have hu0' : 0 ≤ u := (hu.resolve_left hne).1
    have hmu : u ≠ m := fun e => by
      have w := huu.resolve_left hne
      rcases hmm with q | q
      · exact hne (e.trans q)
      · exact n7 m q u (by simp [w]) e.symm
    rw [nd3 hu0', if_neg (fun e => hxu e.symm), if_neg (fun e => hyu e.symm), nd2 hu0', if_neg (fun e => hyu e.symm), if_pos rfl, nd1 hu0', if_neg hmu, if_neg (fun e => hxu e.symm)]
  have eroot : (((t.hang x (!s) m).hang u a y).hang y s x).root = if u = -1 then y else t.root := by
    rw [root_hang, if_neg (by omega), root_hang, root_hang, if_neg (by omega : x ≠ -1)]
  generalize ((t.hang x (!s) m).hang u a y).hang y s x = t' at l3 other ex ey emm euu eroot
  have inA : ∀ j ∈ A.ids, t'.nd j = t.nd j := fun j hj => by
    have q := fun b hb => n3 j hj b hb
    exact other j (h3.has j hj).1.1 (q x (by simp)) (q y (by simp)) (fun e => hmm.elim (fun w => by have := (h3.has j hj).1.1; omega) (fun w => q m (by simp [w]) e)) (fun e => huu.elim (fun w => by have := (h3.has j hj).1.1; omega) (fun w => q u (by simp [w]) e))
  have inM : ∀ j ∈ M.ids, j ≠ M.rid → t'.nd j = t.nd j := fun j hj hne => by
    have q := fun b hb => n7 j hj b hb
    rw [hm] at hne
    exact other j (k3.has j hj).1.1 (fun e => n4 (by rw [← e]; exact List.mem_append.2 (.inl hj))) (q y (by simp)) hne (fun e => huu.elim (fun w => by have := (k3.has j hj).1.1; omega) (fun w => q u (by simp [w]) e))
  have inD : ∀ j ∈ D.ids, t'.nd j = t.nd j := fun j hj => by
    refine other j (k4.has j hj).1.1 (fun e => n4 (by rw [← e]; simp [hj])) (fun e => n8 (by rw [← e]; simp [hj])) (fun e => ?_) (fun e => ?_)
    · rcases hmm with w | w
      · have := (k4.has j hj).1.1; omega
      · exact n7 m w j (by simp [hj]) e.symm
    · rcases huu with w | w
      · have := (k4.has j hj).1.1; omega
      · exact n10 j hj u w e
  have inC : ∀ j ∈ idsC fs, j ≠ upOf fs → t'.nd j = t.nd j := fun j hj hne => by
    rw [hu0] at hne
    have j0 := (h.ctx.has j hj).1
    refine other j j0 (fun e => n4 (by rw [← e]; simp [hj])) (fun e => n8 (by rw [← e]; simp [hj])) (fun e => ?_) hne
    rcases hmm with w | w
    · omega
    · exact n7 m w j (by simp [hj]) e.symm
  refine ⟨by rw [l3]; exact h.len, (Sub_bn ..).2 ⟨(has_len l3).2 k1, by rw [ey, hu0]; rfl, (Sub_bn ..).2 ⟨(has_len l3).2 h1, by rw [ex, hm], h3.congr l3 inA, ?_⟩, k4.congr l3 inD⟩, ?_, hp'.nodup_iff.2 hnod, fun j hj m1 m2 => ?_⟩
  · exact k3.congrUp l3 nM inM (fun hne => by rw [hm] at hne ⊢; exact emm hne)
  · refine SubC.put l3 nC inC (by rw [hu0]; exact eroot) (fun f gs e => ?_) h.ctx
    subst e
    have hz := h.side (show (bn s x c v A (bn s y c' v' M D)).rid ≠ -1 from has_ne h1)
    have hfi : u = f.i := hu0.symm
    have has' : a = f.s := ha.symm.trans hz.2.1
    have hne : u ≠ -1 := by rw [hfi]; exact has_ne h.ctx.1
    have := euu hne
    rw [hfi, has'] at this
    exact this
  · have hj' := (has_len l3).1 hj
    have hnm : j ∉ A.ids ++ (x :: (M.ids ++ (y :: (D.ids ++ idsC fs)))) := fun e => by
      have := hp'.mem_iff.2 e
      rcases List.mem_append.1 this with w | w
      · exact m1 w
      · exact m2 w
    simp only [List.mem_append, List.mem_cons, not_or] at hnm
    obtain ⟨w1, w2, w3, w4, w5, w6⟩ := hnm
    have j0 := hj'.1
    rw [other j j0 w2 w4 (fun e => hmm.elim (fun q => by omega) (fun q => w3 (by rw [e]; exact q))) (fun e => huu.elim (fun q => by omega) (fun q => w6 (by rw [e]; exact q)))]
    have hold : j ∉ (bn s x c v A (bn s y c' v' M D)).ids ++ idsC fs := fun e => by
      have := hp.mem_iff.1 e
      simp only [List.mem_append, List.mem_cons] at this
      rcases this with q | q | q | q | q | q
      · exact w1 q
      · exact w2 q
      · exact w3 q
      · exact w4 q
      · exact w5 q
      · exact w6 q
    exact h.rest j hj' (fun e => hold (List.mem_append.2 (.inl e))) (fun e => hold (List.mem_append.2 (.inr e)))
end Tr
end Go.Proofs.YtpmknpdnhfnfcaaGreatDoor

namespace Go.Proofs.YtpmknpdnhfnfcaaGreatDoor
namespace Tr
open Wd Tn Ky

/-- No Red one has a Red child, and each way has n that are not Red. -/
def Rb : B → Nat → Prop
  | .L, n => n = 0
  | .N _ true _ k, n => (k false).isRed = false ∧ (k true).isRed = false ∧ Rb (k false) n ∧ Rb (k true) n
  | .N _ false _ k, n => ∃ m, n = m + 1 ∧ Rb (k false) m ∧ Rb (k true) m
theorem Rb_red (s : Bool) (i v : Int) (x o : B) (n : Nat) : Rb (bn s i true v x o) n ↔ x.isRed = false ∧ o.isRed = false ∧ Rb x n ∧ Rb o n := by
  cases s
  · simp [bn, Rb]
  · simp only [bn, Rb, if_true, Bool.false_eq_true, if_false]
    exact ⟨fun h => ⟨h.2.1, h.1, h.2.2.2, h.2.2.1⟩, fun h => ⟨h.2.1, h.1, h.2.2.2, h.2.2.1⟩⟩
theorem Rb_black (s : Bool) (i v : Int) (x o : B) (n : Nat) : Rb (bn s i false v x o) n ↔ ∃ m, n = m + 1 ∧ Rb x m ∧ Rb o m := by
  cases s
  · simp [bn, Rb]
  · simp only [bn, Rb, if_true, Bool.false_eq_true, if_false]
    exact ⟨fun ⟨m, h⟩ => ⟨m, h.1, h.2.2, h.2.1⟩, fun ⟨m, h⟩ => ⟨m, h.1, h.2.2, h.2.1⟩⟩
theorem plain_iff : (b : B) → (b.plain.2 = true ↔ ∃ n, Rb b n) ∧ ∀ n, Rb b n → b.plain = (n, true)
  | .L => ⟨⟨fun _ => ⟨0, rfl⟩, fun _ => rfl⟩, fun n h => by rw [show n = 0 from h]; rfl⟩
  | .N i c v k => by
    have h1 := plain_iff (k false)
    have h2 := plain_iff (k true)
    have key : ∀ n, Rb (.N i c v k) n → (B.N i c v k).plain = (n, true) := fun n h => by
      cases c with
      | true =>
        obtain ⟨r1, r2, r3, r4⟩ := h
        have e1 := h1.2 n r3
        have e2 := h2.2 n r4
        simp [B.plain, e1, e2, r1, r2]
      | false =>
        obtain ⟨m, rfl, r3, r4⟩ := h
        have e1 := h1.2 m r3
        have e2 := h2.2 m r4
        simp [B.plain, e1, e2]
    refine ⟨⟨fun h => ?_, fun ⟨n, h⟩ => by rw [key n h]⟩, key⟩
    simp only [B.plain] at h
    split at h
    · rename_i hh
      obtain ⟨n1, e1⟩ := h1.1.1 hh.1
      obtain ⟨n2, e2⟩ := h2.1.1 hh.2.1
      have q1 := h1.2 n1 e1
      have q2 := h2.2 n2 e2
      have : n1 = n2 := by have := hh.2.2; rw [q1, q2] at this; exact this
      subst this
      cases c with
      | true =>
        simp only [if_true, Bool.and_eq_true, Bool.not_eq_true'] at h
        exact ⟨n1, h.1, h.2, e1, e2⟩
      | false => exact ⟨n1 + 1, n1, rfl, e1, e2⟩
    · cases h
def topRed : List F → Bool
  | [] => false
  | f :: _ => f.c
/-- What stands around a place where each way has n that are not Red. -/
def RbC : List F → Nat → Prop
  | [], _ => True
  | f :: fs, n => Rb f.o n ∧ (f.c = true → f.o.isRed = false ∧ topRed fs = false ∧ fs ≠ []) ∧ RbC fs (if f.c then n else n + 1)
theorem isRed_bn (s : Bool) (i : Int) (c : Bool) (v : Int) (x o : B) : (bn s i c v x o).isRed = c := rfl
theorem Rb_put {f : F} {fs : List F} {b : B} {n : Nat} (hb : Rb b n) (hc : RbC (f :: fs) n) (hr : f.c = true → b.isRed = false) : Rb (f.put b) (if f.c then n else n + 1) := by
  obtain ⟨h1, h2, -⟩ := hc
  unfold F.put
  cases h : f.c with
  | true => exact (Rb_red ..).2 ⟨hr h, (h2 h).1, hb, h1⟩
  | false => exact (Rb_black ..).2 ⟨n, rfl, hb, h1⟩
/-- All of it is right. -/
theorem Rb_plug {fs : List F} : ∀ {b : B} {n : Nat}, Rb b n → RbC fs n → (b.isRed = true → topRed fs = false ∧ fs ≠ []) → (plug b fs).isRed = false ∧ ∃ m, Rb (plug b fs) m := by
  induction fs with
  | nil =>
    intro b n hb _ hr
    refine ⟨?_, n, hb⟩
    cases h : b.isRed with
    | false => exact h
    | true => exact absurd rfl (hr h).2
  | cons f fs ih =>
    intro b n hb hc hr
    have hput := Rb_put hb hc (fun e => by
      cases h : b.isRed with
      | false => rfl
      | true => have := (hr h).1; rw [show topRed (f :: fs) = f.c from rfl, e] at this; cases this)
    exact ih hput hc.2.2 (fun e => (hc.2.1 e).2)
theorem keys_bn (s : Bool) (i : Int) (c : Bool) (v : Int) (x o : B) : (bn s i c v x o).keys = if s then o.keys ++ (v, i) :: x.keys else x.keys ++ (v, i) :: o.keys := by
  cases s <;> simp [bn, B.keys]
theorem keys_turn (s : Bool) (x : Int) (c : Bool) (v : Int) (y : Int) (c' : Bool) (v' : Int) (A M D : B) : (bn s y c' v' (bn s x c v A M) D).keys = (bn s x c v A (bn s y c' v' M D)).keys := by
  cases s <;> simp [keys_bn]
theorem keys_plug {fs : List F} : ∀ {b b' : B}, b'.keys = b.keys → (plug b' fs).keys = (plug b fs).keys := by
  induction fs with
  | nil => intro b b' h; exact h
  | cons f fs ih =>
    intro b b' h
    refine ih ?_
    unfold F.put
    rw [keys_bn, keys_bn, h]
theorem paint_same {t : T} {i : Int} (hi : t.has i) {c : Bool} (h : (t.nd i).red = c) : t.paint i c = t := by
  have e : (t.nd i).setRed c = t.nd i := by rw [← h]; rfl
  unfold T.paint T.put
  rw [e]
  unfold T.has at hi
  have : t.ns.set i.toNat (t.nd i) = t.ns := by
    have hlt : i.toNat < t.ns.length := by omega
    have hnd : t.nd i = t.ns[i.toNat] := by unfold T.nd; simp [List.getD, hlt]
    rw [hnd, List.set_getElem_self]
  rw [this]
theorem redB_of {t : T} {i : Int} (hi : t.has i) : t.redB i = (t.nd i).red := by unfold T.redB; rw [decide_eq_true (has_ne hi), Bool.true_and]

/-- What mending comes to. -/
def Mended (t : T) (x : Int) (ks : List K) : Prop := ∃ (n : Nat) (t' : T) (b' : B), Mend n t x t' ∧ Whole t' b' ∧ b'.isRed = false ∧ (∃ m, Rb b' m) ∧ b'.keys = ks
theorem mend_done {t : T} {b : B} {fs : List F} {n : Nat} (h : Z t b fs) (hr : b.isRed = true) (hb : Rb b n) (hc : RbC fs n) (ht : topRed fs = false) (k : Nat) :
    ∃ (t' : T) (b' : B), Mend k t b.rid t' ∧ Whole t' b' ∧ b'.isRed = false ∧ (∃ m, Rb b' m) ∧ b'.keys = (plug b fs).keys := by
  obtain ⟨i, v, x, o, rfl⟩ : ∃ i v x o, b = bn false i true v x o := by
    cases b with
    | L => cases hr
    | N i c v kk => rw [B.isRed] at hr; subst hr; exact ⟨i, v, kk false, kk true, bn_eta false i true v kk⟩
  have hi : t.has i := ((Sub_bn ..).1 h.sub).1
  have hup : t.up i = upOf fs := by unfold T.up; rw [((Sub_bn ..).1 h.sub).2.1]; exact (nodeOf_kid ..).2.2.1
  cases fs with
  | nil =>
    have hroot : t.root = i := h.ctx
    obtain ⟨q1, q2, q3, q4⟩ := (Rb_red ..).1 hb
    refine ⟨t.paint t.root false, bn false i false v x o, .done k t i hi (by rw [hup]; exact .inl rfl) (by rw [hup]; rfl) (by rw [hroot]; exact hi), ?_, rfl, ⟨n + 1, (Rb_black ..).2 ⟨n, rfl, q3, q4⟩⟩, ?_⟩
    · rw [hroot, ← Z_whole]; exact h.paint false
    · show (bn false i false v x o).keys = (bn false i true v x o).keys
      rw [keys_bn, keys_bn]
  | cons f fs =>
    have hfc : f.c = false := ht
    have hw := (Z_plug t _ (f :: fs)).1 h
    obtain ⟨hpr, m, hpm⟩ := Rb_plug hb hc (fun _ => ⟨ht, by simp⟩)
    have hfh : t.has f.i := h.ctx.1
    have hfr : t.redB f.i = false := by rw [redB_of hfh, h.ctx.2.1, (nodeOf_kid ..).2.2.2]; exact hfc
    generalize hpl : plug (bn false i true v x o) (f :: fs) = b' at hw hpr hpm
    have hnl : t.has t.root := by
      rw [hw.root]
      refine hw.sub.ok.resolve_left (fun e => ?_)
      cases b' with
      | N i' c' v' k' => have := hw.sub.1; exact has_ne this e
      | L =>
        have := hw.rest i hi (by simp [B.ids])
        have h2 := ((Sub_bn ..).1 h.sub).2.1
        rw [h2] at this
        have h3 : (nodeOf false true v x.rid o.rid (upOf (f :: fs))).inn = nE.inn := by rw [this]
        cases h3
    have hrr : (t.nd t.root).red = false := by rw [← redB_of hnl, hw.root, hw.sub.red]; exact hpr
    refine ⟨t.paint t.root false, b', .done k t i hi (by rw [hup]; exact .inr hfh) (by rw [hup]; exact hfr) hnl, ?_, hpr, ⟨m, hpm⟩, by rw [← hpl]⟩
    rw [paint_same hnl hrr]
    exact hw
end Tr
end Go.Proofs.YtpmknpdnhfnfcaaGreatDoor

namespace Go.Proofs.YtpmknpdnhfnfcaaGreatDoor
namespace Tr
open Wd Tn Ky

/-- The frame, painted. -/
def F.paint (f : F) (c : Bool) : F := { f with c := c }
theorem Z.paintUp {t : T} {b : B} {f : F} {fs : List F} (h : Z t b (f :: fs)) (c : Bool) : Z (t.paint f.i c) b (f.paint c :: fs) := by
  rw [Z_step] at h ⊢
  exact h.paint c
/-- Seen from the other child. -/
theorem Z.over {t : T} {b : B} {f : F} {fs : List F} (h : Z t b (f :: fs)) : Z t f.o (⟨!f.s, f.i, f.c, f.v, b⟩ :: fs) := by
  rw [Z_step] at h ⊢
  unfold F.put at h ⊢
  simp only
  rw [← bn_swap]
  exact h
theorem kid_frame {t : T} {b : B} {f : F} {fs : List F} (h : Z t b (f :: fs)) : t.kid f.i f.s = b.rid ∧ t.kid f.i (!f.s) = f.o.rid ∧ t.has f.i ∧ t.redB f.i = f.c ∧ t.up f.i = upOf fs := by
  obtain ⟨h1, h2, -⟩ := h.ctx
  have k := nodeOf_kid f.s f.c f.v b.rid f.o.rid (upOf fs)
  refine ⟨by unfold T.kid; rw [h2]; exact k.1, by unfold T.kid; rw [h2]; exact k.2.1, h1, by rw [redB_of h1, h2]; exact k.2.2.2, by unfold T.up; rw [h2]; exact k.2.2.1⟩
theorem red_split {b : B} (h : b.isRed = true) (s : Bool) : ∃ i v x o, b = bn s i true v x o := by
  cases b with
  | L => cases h
  | N i c v k => rw [B.isRed] at h; subst h; exact ⟨i, v, k s, k (!s), bn_eta s i true v k⟩

set_option maxHeartbeats 1000000 in
theorem mend_all : (len : Nat) → ∀ {fs : List F} {t : T} {b : B} {n : Nat}, fs.length ≤ len → Z t b fs → b.isRed = true → Rb b n → RbC fs n → Mended t b.rid (plug b fs).keys
  | len, [], t, b, n, _, h, hr, hb, hc => by
    obtain ⟨t', b', q⟩ := mend_done h hr hb hc rfl 0
    exact ⟨0, t', b', q⟩
  | len, [f], t, b, n, hlen, h, hr, hb, hc => by
    cases hfc : f.c with
    | false =>
      obtain ⟨t', b', q⟩ := mend_done h hr hb hc hfc 0
      exact ⟨0, t', b', q⟩
    | true => exact absurd rfl (hc.2.1 hfc).2.2
  | 0, f :: g :: fs, t, b, n, hlen, h, hr, hb, hc => by simp at hlen
  | 1, f :: g :: fs, t, b, n, hlen, h, hr, hb, hc => by simp at hlen
  | len + 2, f :: g :: fs, t, b, n, hlen, h, hr, hb, hc => by
    cases hfc : f.c with
    | false =>
      obtain ⟨t', b', q⟩ := mend_done h hr hb hc hfc 0
      exact ⟨0, t', b', q⟩
    | true =>
      obtain ⟨c1, c2, c3⟩ := hc
      obtain ⟨c4, c5, -⟩ := c2 hfc
      have hgc : g.c = false := c5
      rw [hfc, if_pos rfl] at c3
      obtain ⟨c6, -, c7⟩ := c3
      rw [hgc, if_neg (by decide)] at c7
      have hx : b.rid ≠ -1 := by
        obtain ⟨i, v, x, o, rfl⟩ := red_split hr false
        exact has_ne ((Sub_bn ..).1 h.sub).1
      obtain ⟨e1, e2, e3⟩ := h.side hx
      obtain ⟨kf1, kf2, kf3, kf4, kf5⟩ := kid_frame h
      rw [hfc] at kf4
      have h2 : Z t (f.put b) (g :: fs) := (Z_step ..).1 h
      have hp0 : (f.put b).rid = f.i := rfl
      obtain ⟨g1, g2, g3⟩ := h2.side (by rw [hp0]; exact has_ne kf3)
      rw [hp0] at g1 g2
      obtain ⟨kg1, kg2, kg3, kg4, kg5⟩ := kid_frame h2
      have hu : t.ok g.o.rid := (h2.ctx.2.2.1).ok
      have hured : t.redB g.o.rid = g.o.isRed := (h2.ctx.2.2.1).red
      cases hgo : g.o.isRed with
      | true =>
        -- the uncle is Red
        obtain ⟨iu, vu, xu, ou, hou⟩ := red_split hgo (!g.s)
        have hsu := h2.ctx.2.2.1
        rw [hou] at hsu
        have hup : t.has g.o.rid := by rw [hou]; exact ((Sub_bn ..).1 hsu).1
        have z1 : Z (t.paint f.i false) b (f.paint false :: g :: fs) := h.paintUp false
        have z2 : Z (t.paint f.i false) ((f.paint false).put b) (g :: fs) := (Z_step ..).1 z1
        have z3 := z2.over
        rw [hou] at z3
        have z4 := z3.paint false
        have z5 := z4.paintUp true
        have z6 := (Z_step ..).1 z5
        obtain ⟨r1, r2, r3, r4⟩ := (Rb_red ..).1 (by rw [hou] at c6; exact c6)
        have hPr : Rb ((f.paint false).put b) (n + 1) := (Rb_black ..).2 ⟨n, rfl, hb, c1⟩
        have hUr : Rb (bn (!g.s) iu false vu xu ou) (n + 1) := (Rb_black ..).2 ⟨n, rfl, r3, r4⟩
        have hGr : Rb (bn (!g.s) g.i true g.v (bn (!g.s) iu false vu xu ou) ((f.paint false).put b)) (n + 1) := (Rb_red ..).2 ⟨rfl, rfl, hUr, hPr⟩
        obtain ⟨k, t', b', m1, m2, m3, m4, m5⟩ := mend_all len (by simp at hlen; omega) z6 rfl hGr c7
        refine ⟨k + 1, t', b', .up k t t' b.rid f.i g.i g.o.rid g.s e3 e1 kf3 kf4 g1 kg3 g2 kg2 hup (by rw [hured, hgo]) ?_, m2, m3, m4, ?_⟩
        · have : g.o.rid = iu := by rw [hou]; rfl
          rw [this]
          exact m1
        · rw [m5]
          show _ = (plug (g.put (f.put b)) fs).keys
          refine keys_plug ?_
          show (bn (!g.s) g.i true g.v (bn (!g.s) iu false vu xu ou) (bn f.s f.i false f.v b f.o)).keys = (bn g.s g.i g.c g.v (bn f.s f.i f.c f.v b f.o) g.o).keys
          rw [hou, bn_swap g.s]
          simp only [keys_bn]
      | false =>
        rw [hgo] at hured
        have hxne : f.o.rid ≠ b.rid := fun e => by
          rcases rid_mem f.o with w | w
          · exact hx (e.symm.trans w)
          · have hb' := (rid_mem b).resolve_left hx
            have hd := h.nod
            rw [List.nodup_append] at hd
            exact hd.2.2 b.rid hb' f.o.rid (by simp [idsC, w]) e.symm
        by_cases hs : f.s = g.s
        · -- on the outer side
          have z1 : Z (t.paint f.i false) ((f.paint false).put b) (g :: fs) := (Z_step ..).1 (h.paintUp false)
          have z2 : Z ((t.paint f.i false).paint g.i true) ((g.paint true).put ((f.paint false).put b)) fs := (Z_step ..).1 (z1.paintUp true)
          have z3 : Z ((t.paint f.i false).paint g.i true) (bn (!g.s) g.i true g.v g.o (bn (!g.s) f.i false f.v f.o b)) fs := by
            have e : (g.paint true).put ((f.paint false).put b) = bn (!g.s) g.i true g.v g.o (bn (!g.s) f.i false f.v f.o b) := by
              show bn g.s g.i true g.v (bn f.s f.i false f.v b f.o) g.o = _
              rw [bn_swap g.s, hs, bn_swap g.s f.i]
            rw [← e]; exact z2
          obtain ⟨tok, z4⟩ := z3.turn
          have z5 : Z (((t.paint f.i false).paint g.i true).turn g.i (!g.s)) b (⟨g.s, f.i, false, f.v, bn (!g.s) g.i true g.v g.o f.o⟩ :: fs) := by
            rw [Z_step]
            show Z _ (bn g.s f.i false f.v b _) fs
            rw [bn_swap g.s]
            exact z4
          have hG : Rb (bn (!g.s) g.i true g.v g.o f.o) n := (Rb_red ..).2 ⟨hgo, c4, c6, c1⟩
          obtain ⟨t', b', m1, m2, m3, m4, m5⟩ := mend_done z5 hr hb ⟨hG, (fun e => by cases e), c7⟩ rfl 0
          refine ⟨1, t', b', .out 0 t t' b.rid f.i g.i g.o.rid g.s e3 e1 kf3 kf4 g1 kg3 g2 kg2 hu hured (by rw [e2, hs]) (by rw [← hs, kf2]; exact hxne) tok m1, m2, m3, m4, ?_⟩
          rw [m5]
          show (plug (bn g.s f.i false f.v b (bn (!g.s) g.i true g.v g.o f.o)) fs).keys = (plug (bn g.s g.i g.c g.v (bn f.s f.i f.c f.v b f.o) g.o) fs).keys
          refine keys_plug ?_
          rw [hs]
          cases g.s <;> simp [keys_bn]
        · -- on the inner side
          have hs' : f.s = !g.s := by cases hf : f.s <;> cases hg : g.s <;> simp_all
          obtain ⟨i, v, M, D, hbe⟩ := red_split hr g.s
          have hi : b.rid = i := by rw [hbe]; rfl
          obtain ⟨q1, q2, q3, q4⟩ := (Rb_red ..).1 (by rw [hbe] at hb; exact hb)
          have z1 : Z t (bn g.s f.i true f.v f.o (bn g.s i true v M D)) (g :: fs) := by
            have e : f.put b = bn g.s f.i true f.v f.o (bn g.s i true v M D) := by
              show bn f.s f.i f.c f.v b f.o = _
              rw [hs', hfc, bn_swap g.s f.i, hbe]
            rw [← e]; exact h2
          obtain ⟨tok1, z2⟩ := z1.turn
          have hup1 : (t.turn f.i g.s).up f.i = i := by
            have q := ((Sub_bn ..).1 ((Sub_bn ..).1 z2.sub).2.2.1).2.1
            unfold T.up
            rw [q]
            exact (nodeOf_kid ..).2.2.1
          have z3 := z2.paint false
          have z4 : Z (((t.turn f.i g.s).paint i false).paint g.i true) ((g.paint true).put (bn g.s i false v (bn g.s f.i true f.v f.o M) D)) fs := (Z_step ..).1 (z3.paintUp true)
          have z5 : Z (((t.turn f.i g.s).paint i false).paint g.i true) (bn (!g.s) g.i true g.v g.o (bn (!g.s) i false v D (bn g.s f.i true f.v f.o M))) fs := by
            have e : (g.paint true).put (bn g.s i false v (bn g.s f.i true f.v f.o M) D) = bn (!g.s) g.i true g.v g.o (bn (!g.s) i false v D (bn g.s f.i true f.v f.o M)) := by
              show bn g.s g.i true g.v (bn g.s i false v (bn g.s f.i true f.v f.o M) D) g.o = _
              rw [bn_swap g.s g.i, bn_swap g.s i]
            rw [← e]; exact z4
          obtain ⟨tok2, z6⟩ := z5.turn
          have z7 : Z ((((t.turn f.i g.s).paint i false).paint g.i true).turn g.i (!g.s)) (bn g.s f.i true f.v f.o M) (⟨g.s, i, false, v, bn (!g.s) g.i true g.v g.o D⟩ :: fs) := by
            rw [Z_step]
            show Z _ (bn g.s i false v (bn g.s f.i true f.v f.o M) _) fs
            rw [bn_swap g.s i]
            exact z6
          have hP : Rb (bn g.s f.i true f.v f.o M) n := (Rb_red ..).2 ⟨c4, q1, c1, q3⟩
          have hG : Rb (bn (!g.s) g.i true g.v g.o D) n := (Rb_red ..).2 ⟨hgo, q2, c6, q4⟩
          obtain ⟨t', b', m1, m2, m3, m4, m5⟩ := mend_done z7 rfl hP ⟨hG, (fun e => by cases e), c7⟩ rfl 0
          refine ⟨1, t', b', .inn 0 t t' b.rid f.i g.i g.o.rid g.s e3 e1 kf3 kf4 g1 kg3 g2 kg2 hu hured (by rw [e2, hs']) (by rw [← hs', kf1]) tok1 (by rw [hup1, hi]) (by rw [hi]; exact tok2) (by rw [hi]; exact m1), m2, m3, m4, ?_⟩
          rw [m5]
          show (plug (bn g.s i false v (bn g.s f.i true f.v f.o M) (bn (!g.s) g.i true g.v g.o D)) fs).keys = (plug (bn g.s g.i g.c g.v (bn f.s f.i f.c f.v b f.o) g.o) fs).keys
          refine keys_plug ?_
          rw [hs', hbe]
          cases g.s <;> simp [keys_bn]
end Tr
end Go.Proofs.YtpmknpdnhfnfcaaGreatDoor

namespace Go.Proofs.YtpmknpdnhfnfcaaGreatDoor
namespace Tr
open Wd Tn Ky

def sd : List F → Bool
  | [] => false
  | f :: _ => f.s
def keysL : List F → List K
  | [] => []
  | f :: fs => keysL fs ++ if f.s then f.o.keys ++ [(f.v, f.i)] else []
def keysR : List F → List K
  | [] => []
  | f :: fs => (if f.s then [] else (f.v, f.i) :: f.o.keys) ++ keysR fs
theorem keys_all (fs : List F) : ∀ b : B, (plug b fs).keys = keysL fs ++ b.keys ++ keysR fs := by
  induction fs with
  | nil => intro b; simp [plug, keysL, keysR]
  | cons f fs ih =>
    intro b
    show (plug (f.put b) fs).keys = _
    rw [ih, F.put, keys_bn]
    cases hs : f.s <;> simp [keysL, keysR, hs]
theorem SubC.inn {t : T} : {fs : List F} → {x : Int} → SubC t fs x → ∀ i ∈ idsC fs, (t.nd i).inn = true
  | [], _, _, i, hi => by cases hi
  | f :: fs, x, h, i, hi => by
    simp only [idsC, List.mem_cons, List.mem_append] at hi
    rcases hi with rfl | hi | hi
    · rw [h.2.1]; rfl
    · exact (h.2.2.1.has i hi).2
    · exact SubC.inn h.2.2.2 i hi
/-- A node comes to a place where nothing stood. -/
theorem Z.ins {t : T} {fs : List F} {id : Int} (v : Int) (h : Z t .L fs) (hid : t.has id) (hn : id ∉ idsC fs) : Z ((t.put id (nNew v)).hang (upOf fs) (sd fs) id) (bn false id true v .L .L) fs := by
  have l0 : (t.put id (nNew v)).ns.length = t.ns.length := put_len _ _ _
  have l1 : ((t.put id (nNew v)).hang (upOf fs) (sd fs) id).ns.length = t.ns.length := (hang_len _ _ _ _).trans l0
  have hu := h.ctx.ok
  have hne : id ≠ upOf fs := fun e => (upOf_mem fs).elim (fun w => has_ne hid (e.trans w)) (fun w => hn (by rw [e]; exact w))
  have nd1 : ∀ {j : Int}, 0 ≤ j → ((t.put id (nNew v)).hang (upOf fs) (sd fs) id).nd j = _ := fun hj => nd_hang ((ok_len l0).2 hu) (.inr ((has_len l0).2 hid)) (sd fs) hj
  have e1 : ((t.put id (nNew v)).hang (upOf fs) (sd fs) id).nd id = nodeOf false true v (-1) (-1) (upOf fs) := by
    rw [nd1 hid.1, if_pos rfl, if_neg hne, nd_put_same hid]; rfl
  have e2 : ∀ j, 0 ≤ j → j ≠ id → j ≠ upOf fs → ((t.put id (nNew v)).hang (upOf fs) (sd fs) id).nd j = t.nd j := fun j hj q1 q2 => by
    rw [nd1 hj, if_neg q1, if_neg q2, nd_put hid _ hj, if_neg q1]
  have e3 : upOf fs ≠ -1 → ((t.put id (nNew v)).hang (upOf fs) (sd fs) id).nd (upOf fs) = (t.nd (upOf fs)).setKid (sd fs) id := fun q => by
    have h0 := (hu.resolve_left q).1
    rw [nd1 h0, if_neg (fun e => hne e.symm), if_pos rfl, nd_put hid _ h0, if_neg (fun e => hne e.symm)]
  have e4 : ((t.put id (nNew v)).hang (upOf fs) (sd fs) id).root = if upOf fs = -1 then id else t.root := by rw [root_hang]; rfl
  generalize (t.put id (nNew v)).hang (upOf fs) (sd fs) id = t' at l1 e1 e2 e3 e4
  have hd : (idsC fs).Nodup := by simpa [B.ids] using h.nod
  refine ⟨by rw [l1]; exact h.len, (Sub_bn ..).2 ⟨(has_len l1).2 hid, e1, trivial, trivial⟩, SubC.put l1 hd (fun j hj q => e2 j (h.ctx.has j hj).1 (fun e => hn (by rw [← e]; exact hj)) q) e4 (fun f gs e => ?_) h.ctx, ?_, fun j hj m1 m2 => ?_⟩
  · subst e
    exact e3 (has_ne h.ctx.1)
  · show ([] ++ id :: ([] : List Int) ++ idsC fs).Nodup
    exact List.nodup_cons.2 ⟨hn, hd⟩
  · have hj' := (has_len l1).1 hj
    have q1 : j ≠ id := fun e => m1 (by rw [e]; simp [bn, B.ids])
    rw [e2 j hj'.1 q1 (fun e => (upOf_mem fs).elim (fun w => has_ne hj' (e.trans w)) (fun w => m2 (by rw [e]; exact w)))]
    exact h.rest j hj' (by simp [B.ids]) m2

theorem down_all {m : Int} {k : K} {t : T} : (b : B) → ∀ {fs : List F} {n : Nat}, Z t b fs → okK m b.keys → (∀ x ∈ keysL fs, ltK m k x = false) → (∀ x ∈ keysR fs, ltK m k x = true) →
    Rb b n → RbC fs n → (b.isRed = true → topRed fs = false ∧ fs ≠ []) →
    ∃ (d : Nat) (fs' : List F), Down m k t d b.rid (upOf fs) (sd fs) (upOf fs') (sd fs') ∧ Z t .L fs' ∧ plug .L fs' = plug b fs ∧ RbC fs' 0 ∧ (∀ x ∈ keysL fs', ltK m k x = false) ∧ (∀ x ∈ keysR fs', ltK m k x = true)
  | .L, fs, n, h, _, hL, hR, hb, hc, _ => by
    have : n = 0 := hb
    subst this
    exact ⟨0, fs, .stop 0 _ _ h.ctx.ok, h, rfl, hc, hL, hR⟩
  | .N i c v kk, fs, n, h, hok, hL, hR, hb, hc, hcr => by
    obtain ⟨s, hs⟩ : ∃ s, (!(ltK m k (t.key i))) = s := ⟨_, rfl⟩
    have he := bn_eta s i c v kk
    have hkey : t.key i = (v, i) := by unfold T.key; rw [h.sub.2.1]
    have hi : t.has i := h.sub.1
    have hz : Z t (kk s) (⟨s, i, c, v, kk (!s)⟩ :: fs) := by
      rw [Z_step]
      show Z t (bn s i c v (kk s) (kk (!s))) fs
      rw [← he]; exact h
    have hkid : t.kid i s = (kk s).rid := (kid_frame hz).1
    rw [he] at hb
    have hrb : ∃ n', Rb (kk s) n' ∧ RbC (⟨s, i, c, v, kk (!s)⟩ :: fs) n' ∧ ((kk s).isRed = true → topRed (⟨s, i, c, v, kk (!s)⟩ :: fs) = false ∧ (⟨s, i, c, v, kk (!s)⟩ :: fs) ≠ []) := by
      cases c with
      | true =>
        obtain ⟨q1, q2, q3, q4⟩ := (Rb_red ..).1 hb
        exact ⟨n, q3, ⟨q4, fun _ => ⟨q2, (hcr rfl).1, (hcr rfl).2⟩, hc⟩, fun e => by rw [q1] at e; cases e⟩
      | false =>
        obtain ⟨n', rfl, q3, q4⟩ := (Rb_black ..).1 hb
        exact ⟨n', q3, ⟨q4, (fun e => by cases e), hc⟩, fun _ => ⟨rfl, by simp⟩⟩
    obtain ⟨n', r1, r2, r3⟩ := hrb
    have hok2 : okK m ((kk false).keys ++ (v, i) :: (kk true).keys) := hok
    unfold okK at hok2
    rw [List.pairwise_append] at hok2
    obtain ⟨o1, o2, o3⟩ := hok2
    obtain ⟨o4, o5⟩ := List.pairwise_cons.1 o2
    cases hsv : s with
    | false =>
      subst hsv
      have hlt : ltK m k (v, i) = true := by rw [← hkey]; simpa using hs
      obtain ⟨d, fs', a1, a2, a3, a4, a5, a6⟩ := down_all (kk false) hz o1 (fun x hx => hL x (by simpa [keysL] using hx)) (fun x hx => by
        simp only [keysR, Bool.false_eq_true, if_false, List.cons_append, List.mem_cons, List.mem_append] at hx
        rcases hx with rfl | hx | hx
        · exact hlt
        · exact lt_trans hlt (o4 x hx).1
        · exact hR x hx) r1 r2 r3
      refine ⟨d + 1, fs', .step d i (upOf fs) (upOf fs') (sd fs) (sd fs') hi ?_, a2, ?_, a4, a5, a6⟩
      · rw [hs, hkid]; exact a1
      · rw [a3]; show plug (bn false i c v (kk false) (kk (!false))) fs = _; rw [← he]
    | true =>
      subst hsv
      have hlt : ltK m k (v, i) = false := by rw [← hkey]; simpa using hs
      obtain ⟨d, fs', a1, a2, a3, a4, a5, a6⟩ := down_all (kk true) hz o5 (fun x hx => by
        simp only [keysL, if_true, List.mem_append, List.mem_cons, List.not_mem_nil, or_false] at hx
        rcases hx with hx | hx | rfl
        · exact hL x hx
        · cases hc' : ltK m k x with
          | false => rfl
          | true => rw [lt_trans hc' (o3 x hx (v, i) (by simp)).1] at hlt; cases hlt
        · exact hlt) (fun x hx => hR x (by simpa [keysR] using hx)) r1 r2 r3
      refine ⟨d + 1, fs', .step d i (upOf fs) (upOf fs') (sd fs) (sd fs') hi ?_, a2, ?_, a4, a5, a6⟩
      · rw [hs, hkid]; exact a1
      · rw [a3]; show plug (bn true i c v (kk true) (kk (!true))) fs = _; rw [← he]

theorem okK_ins {m : Int} {k : K} {l r : List K} (hok : okK m (l ++ r)) (hkin : Kin k) (hk : ∀ x ∈ l ++ r, Kin x ∧ x.2 ≠ k.2) (hl : ∀ x ∈ l, ltK m k x = false) (hr : ∀ x ∈ r, ltK m k x = true) : okK m (l ++ k :: r) := by
  unfold okK at *
  rw [List.pairwise_append] at hok ⊢
  obtain ⟨o1, o2, o3⟩ := hok
  refine ⟨o1, List.pairwise_cons.2 ⟨fun x hx => ⟨hr x hx, fun e => (hk x (by simp [hx])).2 e.symm⟩, o2⟩, fun a ha b hb => ?_⟩
  rcases List.mem_cons.1 hb with rfl | hb
  · refine ⟨?_, (hk a (by simp [ha])).2⟩
    cases hc : ltK m a b with
    | true => rfl
    | false => exact absurd (congrArg Prod.snd (lt_same hkin (hk a (by simp [ha])).1 (hl a ha) hc)).symm (hk a (by simp [ha])).2
  · exact o3 a ha b hb
theorem ids_keys : (b : B) → b.ids = b.keys.map (·.2)
  | .L => rfl
  | .N i c v k => by simp [B.ids, B.keys, ids_keys (k false), ids_keys (k true)]
/-- A right tree, and one key more. -/
theorem ins_all {m : Int} {k : K} {t : T} {b : B} (hw : Whole t b) (hr : RightB m b) (hkin : Kin k) (hU : ∀ x ∈ b.keys, Kin x) (hk : t.has k.2) (hi : (t.nd k.2).inn = false) :
    ∃ (n n2 : Nat) (u : Int) (s : Bool) (t' : T) (b' : B), Down m k t n t.root (-1) false u s ∧ Mend n2 ((t.put k.2 (nNew k.1)).hang u s k.2) k.2 t' ∧ Whole t' b' ∧ RightB m b' ∧
      ∃ l r, b.keys = l ++ r ∧ b'.keys = l ++ k :: r ∧ (∀ x ∈ l, ltK m k x = false) ∧ (∀ x ∈ r, ltK m k x = true) := by
  obtain ⟨r1, r2, r3⟩ := hr
  obtain ⟨N, hN⟩ := (plain_iff b).1.1 r3
  obtain ⟨d, fs, a1, a2, a3, a4, a5, a6⟩ := down_all (m := m) (k := k) b ((Z_whole t b).2 hw) r2 (fun x hx => by cases hx) (fun x hx => by cases hx) hN trivial (fun e => by rw [r1] at e; cases e)
  have hnid : k.2 ∉ idsC fs := fun e => by have := a2.ctx.inn k.2 e; rw [hi] at this; cases this
  have z := a2.ins k.1 hk hnid
  have hrb0 : Rb (bn false k.2 true k.1 .L .L) 0 := (Rb_red ..).2 ⟨rfl, rfl, rfl, rfl⟩
  obtain ⟨n2, t', b', m1, m2, m3, ⟨N', m4⟩, m5⟩ := mend_all fs.length (Nat.le_refl _) z rfl hrb0 a4
  have hkeys : b.keys = keysL fs ++ keysR fs := by
    have h1 := keys_all fs .L
    rw [a3] at h1
    simpa [plug, B.keys] using h1
  have hkeys' : b'.keys = keysL fs ++ k :: keysR fs := by
    rw [m5, keys_all]
    simp [keys_bn, B.keys]
  have hnk : ∀ x ∈ b.keys, x.2 ≠ k.2 := fun x hx e => by
    have hx2 : x.2 ∈ b.ids := by rw [ids_keys]; exact List.mem_map.2 ⟨x, hx, rfl⟩
    have := (hw.sub.has x.2 hx2).2
    rw [e, hi] at this
    cases this
  refine ⟨d, n2, upOf fs, sd fs, t', b', by rw [hw.root]; exact a1, m1, m2, ⟨m3, ?_, (plain_iff b').1.2 ⟨N', m4⟩⟩, keysL fs, keysR fs, hkeys, hkeys', a5, a6⟩
  rw [hkeys']
  exact okK_ins (by rw [← hkeys]; exact r2) hkin (fun x hx => by rw [← hkeys] at hx; exact ⟨hU x hx, hnk x hx⟩) a5 a6
end Tr
end Go.Proofs.YtpmknpdnhfnfcaaGreatDoor

namespace Go.Proofs.YtpmknpdnhfnfcaaGreatDoor
namespace Tr
open Wd Tn Ky

/-- What filling comes to. -/
def Filled (t : T) (u : Int) (s : Bool) (ks : List K) : Prop := ∃ (n : Nat) (t' : T) (b' : B), Fill n t u s t' ∧ Whole t' b' ∧ b'.isRed = false ∧ (∃ m, Rb b' m) ∧ b'.keys = ks
/-- One too few on each way; a Red root may have Red children. -/
def RbF : B → Nat → Prop
  | .N _ true _ k, n => Rb (k false) n ∧ Rb (k true) n
  | b, n => Rb b n
theorem RbF_red (s : Bool) (i v : Int) (x o : B) (n : Nat) : RbF (bn s i true v x o) n ↔ Rb x n ∧ Rb o n := by
  cases s
  · simp [bn, RbF]
  · simp only [bn, RbF, if_true, Bool.false_eq_true, if_false]
    exact and_comm
theorem RbF_black {b : B} {n : Nat} (hb : b.isRed = false) : RbF b n ↔ Rb b n := by
  cases b with
  | L => rfl
  | N i c v k => rw [B.isRed] at hb; subst hb; rfl
theorem RbF_of {b : B} {n : Nat} (h : Rb b n) : RbF b n := by
  cases hr : b.isRed with
  | false => exact (RbF_black hr).2 h
  | true =>
    obtain ⟨i, v, x, o, rfl⟩ := red_split hr false
    exact (RbF_red ..).2 ((Rb_red ..).1 h).2.2
theorem black_split {b : B} {n : Nat} (h : Rb b (n + 1)) (hr : b.isRed = false) (s : Bool) : ∃ i v x o, b = bn s i false v x o ∧ Rb x n ∧ Rb o n := by
  cases b with
  | L => cases h
  | N i c v k =>
    rw [B.isRed] at hr
    subst hr
    refine ⟨i, v, k s, k (!s), bn_eta s i false v k, ?_⟩
    rw [bn_eta s i false v k] at h
    obtain ⟨m, e, h1, h2⟩ := (Rb_black ..).1 h
    have : n = m := by omega
    subst this
    exact ⟨h1, h2⟩
/-- Filled for good, the far child being Red. -/
theorem setfar_all {t : T} {x : B} {s : Bool} {u : Int} {c : Bool} {uv : Int} {fs : List F} {w wv d dv : Int} {M P Q : B} {n : Nat} (h : Z t x (⟨s, u, c, uv, bn s w false wv M (bn s d true dv P Q)⟩ :: fs))
    (hx : Rb x n) (hM : Rb M n) (hP : Rb P n) (hQ : Rb Q n) (hc : RbC fs (if c then n + 1 else n + 2)) (hcr : c = true → topRed fs = false ∧ fs ≠ []) :
    ∃ (t' : T) (b' : B), SetFar t u s t' ∧ Whole t' b' ∧ b'.isRed = false ∧ (∃ m, Rb b' m) ∧ b'.keys = (plug (bn s u c uv x (bn s w false wv M (bn s d true dv P Q))) fs).keys := by
  obtain ⟨kf1, kf2, kf3, kf4, kf5⟩ := kid_frame h
  simp only at kf1 kf2 kf3 kf4 kf5
  have hW := h.ctx.2.2.1
  obtain ⟨w1, w2, w3, w4⟩ := (Sub_bn ..).1 hW
  have hD := (Sub_bn ..).1 w4
  have kw : t.kid w (!s) = d := by unfold T.kid; rw [w2]; exact (nodeOf_kid ..).2.1
  have ured : (t.nd u).red = c := by rw [← redB_of kf3]; exact kf4
  -- w takes u's color
  have z1 := h.over
  simp only at z1
  have z2 := z1.paint c
  have z3 := z2.paintUp false
  have z4 : Z ((t.paint w c).paint u false) (bn s d true dv P Q) (⟨!s, w, c, wv, M⟩ :: ⟨!s, u, false, uv, x⟩ :: fs) := by
    rw [Z_step]
    show Z _ (bn (!s) w c wv (bn s d true dv P Q) M) _
    have e := bn_swap s w c wv M (bn s d true dv P Q)
    rw [← e]
    exact z3
  have z5 := z4.paint false
  have z6 := (Z_step ..).1 ((Z_step ..).1 z5)
  have z7 : Z (((t.paint w c).paint u false).paint d false) (bn s u false uv x (bn s w c wv M (bn s d false dv P Q))) fs := by
    have e : F.put ⟨!s, u, false, uv, x⟩ (F.put ⟨!s, w, c, wv, M⟩ (bn s d false dv P Q)) = bn s u false uv x (bn s w c wv M (bn s d false dv P Q)) := by
      show bn (!s) u false uv (bn (!s) w c wv (bn s d false dv P Q) M) x = _
      rw [← bn_swap s w, ← bn_swap s u]
    rw [← e]
    exact z6
  obtain ⟨tok, z8⟩ := z7.turn
  have hD' : Rb (bn s d false dv P Q) (n + 1) := (Rb_black ..).2 ⟨n, rfl, hP, hQ⟩
  have hU : Rb (bn s u false uv x M) (n + 1) := (Rb_black ..).2 ⟨n, rfl, hx, hM⟩
  have hB : Rb (bn s w c wv (bn s u false uv x M) (bn s d false dv P Q)) (if c then n + 1 else n + 2) := by
    cases c with
    | true => exact (Rb_red ..).2 ⟨rfl, rfl, hU, hD'⟩
    | false => exact (Rb_black ..).2 ⟨n + 1, rfl, hU, hD'⟩
  obtain ⟨p1, p2⟩ := Rb_plug hB hc (fun e => hcr (by rw [isRed_bn] at e; exact e))
  refine ⟨_, _, ⟨w, d, kf3, kf2, w1, kw, hD.1, ?_, rfl⟩, (Z_plug ..).1 (by rw [ured]; exact z8), p1, p2, ?_⟩
  · rw [ured]; exact tok
  · refine keys_plug ?_
    cases s <;> simp [keys_bn]

/-- Filled for good. -/
theorem settle_all {t : T} {x : B} {s : Bool} {u : Int} {c : Bool} {uv : Int} {fs : List F} {w wv : Int} {M D : B} {n : Nat} (h : Z t x (⟨s, u, c, uv, bn s w false wv M D⟩ :: fs))
    (hx : Rb x n) (hM : Rb M n) (hD : Rb D n) (hc : RbC fs (if c then n + 1 else n + 2)) (hcr : c = true → topRed fs = false ∧ fs ≠ []) (hr : M.isRed = true ∨ D.isRed = true) :
    ∃ (t' : T) (b' : B), Settle t u s t' ∧ Whole t' b' ∧ b'.isRed = false ∧ (∃ m, Rb b' m) ∧ b'.keys = (plug (bn s u c uv x (bn s w false wv M D)) fs).keys := by
  obtain ⟨kf1, kf2, kf3, kf4, kf5⟩ := kid_frame h
  simp only at kf1 kf2 kf3 kf4 kf5
  have hW := h.ctx.2.2.1
  obtain ⟨w1, w2, w3, w4⟩ := (Sub_bn ..).1 hW
  have kw : t.kid w (!s) = D.rid := by unfold T.kid; rw [w2]; exact (nodeOf_kid ..).2.1
  have kw' : t.kid w s = M.rid := by unfold T.kid; rw [w2]; exact (nodeOf_kid ..).1
  cases hDr : D.isRed with
  | true =>
    obtain ⟨d, dv, P, Q, rfl⟩ := red_split hDr s
    obtain ⟨q1, q2, q3, q4⟩ := (Rb_red ..).1 hD
    obtain ⟨t', b', m1, m2⟩ := setfar_all h hx hM q3 q4 hc hcr
    exact ⟨t', b', ⟨w, _, kf3, kf2, w1, kw, w4.ok, .inl ⟨by rw [w4.red]; rfl, m1⟩⟩, m2⟩
  | false =>
    have hMr := hr.resolve_right (by rw [hDr]; decide)
    obtain ⟨m, mv, Q, P, rfl⟩ := red_split hMr (!s)
    obtain ⟨q1, q2, q3, q4⟩ := (Rb_red ..).1 hM
    have hm := ((Sub_bn ..).1 w3).1
    -- the near child is painted, then w, and w is turned
    have z1 := h.over
    simp only at z1
    have z2 : Z t (bn (!s) m true mv Q P) (⟨s, w, false, wv, D⟩ :: ⟨!s, u, c, uv, x⟩ :: fs) := by
      rw [Z_step]
      exact z1
    have z3 := (z2.paint false).paintUp true
    have z4 := (Z_step ..).1 z3
    have z5 : Z ((t.paint m false).paint w true) (bn (!s) w true wv D (bn (!s) m false mv Q P)) (⟨!s, u, c, uv, x⟩ :: fs) := by
      have e : F.put (F.paint ⟨s, w, false, wv, D⟩ true) (bn (!s) m false mv Q P) = bn (!s) w true wv D (bn (!s) m false mv Q P) := by
        show bn s w true wv (bn (!s) m false mv Q P) D = _
        rw [bn_swap s w]
      rw [← e]
      exact z4
    obtain ⟨tok, z6⟩ := z5.turn
    have z7 : Z (((t.paint m false).paint w true).turn w (!s)) x (⟨s, u, c, uv, bn s m false mv P (bn s w true wv Q D)⟩ :: fs) := by
      have z := z6.over
      simp only [Bool.not_not] at z
      have e : bn (!s) m false mv (bn (!s) w true wv D Q) P = bn s m false mv P (bn s w true wv Q D) := by
        rw [bn_swap s m, bn_swap s w]
      rw [e] at z
      exact z
    obtain ⟨t', b', m1, m2, m3, m4, m5⟩ := setfar_all z7 hx q4 q3 hD hc hcr
    refine ⟨t', b', ⟨w, _, kf3, kf2, w1, kw, w4.ok, .inr ⟨by rw [w4.red]; exact hDr, m, kw', hm, tok, m1⟩⟩, m2, m3, m4, ?_⟩
    rw [m5]
    refine keys_plug ?_
    cases s <;> simp [keys_bn]

theorem place_up {t : T} {b : B} {fs : List F} (h : Z t b fs) (hb : b.rid ≠ -1) : t.up b.rid = upOf fs ∧ t.side b.rid = sd fs := by
  cases fs with
  | nil =>
    have e := h.top.2 hb
    refine ⟨e, ?_⟩
    unfold T.side
    rw [e]
    rfl
  | cons f fs => exact ⟨(h.side hb).1, (h.side hb).2.1⟩

/-- Where the other child is not Red. -/
theorem fill_black {t : T} {x : B} {s : Bool} {u : Int} {c : Bool} {uv : Int} {fs : List F} {w wv : Int} {M D : B} {n : Nat} (h : Z t x (⟨s, u, c, uv, bn s w false wv M D⟩ :: fs))
    (hxr : x.isRed = false) (hx : Rb x n) (hM : Rb M n) (hD : Rb D n) (hc : RbC fs (if c then n + 1 else n + 2)) (hcr : c = true → topRed fs = false ∧ fs ≠ [])
    (ih : ∀ (t2 : T), Z t2 (bn s u c uv x (bn s w true wv M D)) fs → RbF (bn s u c uv x (bn s w true wv M D)) (if c then n else n + 1) → Filled t2 (upOf fs) (sd fs) (plug (bn s u c uv x (bn s w true wv M D)) fs).keys) :
    Filled t u s (plug (bn s u c uv x (bn s w false wv M D)) fs).keys := by
  obtain ⟨kf1, kf2, kf3, kf4, kf5⟩ := kid_frame h
  simp only at kf1 kf2 kf3 kf4 kf5
  have hW := h.ctx.2.2.1
  obtain ⟨w1, w2, w3, w4⟩ := (Sub_bn ..).1 hW
  have hk : t.ok (t.kid u s) := by rw [kf1]; exact h.sub.ok
  have hrk : t.redB (t.kid u s) = false := by rw [kf1, h.sub.red]; exact hxr
  have hwr : t.redB w = false := by rw [redB_of w1, w2]; exact (nodeOf_kid ..).2.2.2
  have kw : t.kid w (!s) = D.rid := by unfold T.kid; rw [w2]; exact (nodeOf_kid ..).2.1
  have kw' : t.kid w s = M.rid := by unfold T.kid; rw [w2]; exact (nodeOf_kid ..).1
  have both : ∀ p : Int → Prop, p (t.kid w s) → p (t.kid w (!s)) → p (t.kid w false) ∧ p (t.kid w true) := fun p h1 h2 => by cases s <;> exact ⟨by assumption, by assumption⟩
  have oks := both t.ok (by rw [kw']; exact w3.ok) (by rw [kw]; exact w4.ok)
  by_cases hr : M.isRed = true ∨ D.isRed = true
  · obtain ⟨t', b', m1, m2, m3, m4, m5⟩ := settle_all h hx hM hD hc hcr hr
    have hrr : (t.redB (t.kid w false) || t.redB (t.kid w true)) = true := by
      have e1 : t.redB (t.kid w s) = M.isRed := by rw [kw', w3.red]
      have e2 : t.redB (t.kid w (!s)) = D.isRed := by rw [kw, w4.red]
      rw [Bool.or_eq_true]
      cases s
      · rcases hr with hr | hr
        · exact .inl (e1.trans hr)
        · exact .inr (e2.trans hr)
      · rcases hr with hr | hr
        · exact .inr (e1.trans hr)
        · exact .inl (e2.trans hr)
    exact ⟨0, t', b', .settle 0 t t' u w s kf3 hk hrk kf2 w1 hwr oks.1 oks.2 hrr m1, m2, m3, m4, m5⟩
  · have hMr : M.isRed = false := by simpa using fun e => hr (.inl e)
    have hDr : D.isRed = false := by simpa using fun e => hr (.inr e)
    have z1 := h.over
    simp only at z1
    have z2 := (z1.paint true).over
    simp only [Bool.not_not] at z2
    have z3 := (Z_step ..).1 z2
    have hW' : Rb (bn s w true wv M D) n := (Rb_red ..).2 ⟨hMr, hDr, hM, hD⟩
    have hF : RbF (bn s u c uv x (bn s w true wv M D)) (if c then n else n + 1) := by
      cases c with
      | true => exact (RbF_red ..).2 ⟨hx, hW'⟩
      | false => exact (RbF_black rfl).2 ((Rb_black ..).2 ⟨n, rfl, hx, hW'⟩)
    obtain ⟨k, t', b', m1, m2, m3, m4, m5⟩ := ih _ z3 hF
    have hpl := place_up z3 (show (bn s u c uv x (bn s w true wv M D)).rid ≠ -1 from has_ne kf3)
    have hpl1 : (t.paint w true).up u = upOf fs := hpl.1
    have hpl2 : (t.paint w true).side u = sd fs := hpl.2
    have hrr : (t.redB (t.kid w false) || t.redB (t.kid w true)) = false := by
      have e1 : t.redB (t.kid w s) = false := by rw [kw', w3.red]; exact hMr
      have e2 : t.redB (t.kid w (!s)) = false := by rw [kw, w4.red]; exact hDr
      rw [Bool.or_eq_false_iff]
      cases s
      · exact ⟨e1, e2⟩
      · exact ⟨e2, e1⟩
    refine ⟨k + 1, t', b', .up k t t' u w s kf3 hk hrk kf2 w1 hwr oks.1 oks.2 hrr (by rw [hpl1]; exact z3.ctx.ok) (by rw [hpl1, hpl2]; exact m1), m2, m3, m4, ?_⟩
    rw [m5]
    refine keys_plug ?_
    rw [keys_bn, keys_bn, keys_bn, keys_bn]

/-- A Red node at the place. -/
theorem fill_red {t : T} {x : B} {f : F} {fs : List F} {n : Nat} (h : Z t x (f :: fs)) (hxr : x.isRed = true) (hx : RbF x n) (hc : RbC (f :: fs) (n + 1)) : Filled t f.i f.s (plug x (f :: fs)).keys := by
  obtain ⟨kf1, kf2, kf3, kf4, kf5⟩ := kid_frame h
  obtain ⟨i, v, y, o, rfl⟩ := red_split hxr false
  obtain ⟨q1, q2⟩ := (RbF_red ..).1 hx
  have hi : t.has i := ((Sub_bn ..).1 h.sub).1
  have hb : Rb (bn false i false v y o) (n + 1) := (Rb_black ..).2 ⟨n, rfl, q1, q2⟩
  obtain ⟨p1, p2⟩ := Rb_plug hb hc (fun e => by cases e)
  refine ⟨0, t.paint i false, _, .redp 0 t f.i i f.s kf3 kf1 hi (by rw [redB_of hi, ((Sub_bn ..).1 h.sub).2.1]; exact (nodeOf_kid ..).2.2.2), (Z_plug ..).1 (h.paint false), p1, p2, ?_⟩
  refine keys_plug ?_
  rw [keys_bn, keys_bn]
/-- Filling comes to a right tree. -/
theorem fill_all : (fs : List F) → ∀ {t : T} {x : B} {n : Nat}, Z t x fs → RbF x n → RbC fs (n + 1) → Filled t (upOf fs) (sd fs) (plug x fs).keys
  | [], t, x, n, h, hx, hc => by
    have hroot : t.root = x.rid := h.ctx
    cases hxr : x.isRed with
    | true =>
      obtain ⟨i, v, y, o, rfl⟩ := red_split hxr false
      obtain ⟨q1, q2⟩ := (RbF_red ..).1 hx
      have hi : t.has i := ((Sub_bn ..).1 h.sub).1
      have hne : t.root ≠ -1 := by rw [hroot]; exact has_ne hi
      refine ⟨0, _, bn false i false v y o, .root 0 t false (by rw [hroot]; exact .inr hi), ?_, rfl, ⟨n + 1, (Rb_black ..).2 ⟨n, rfl, q1, q2⟩⟩, ?_⟩
      · rw [if_neg hne, hroot, ← Z_whole]; exact h.paint false
      · show _ = (bn false i true v y o).keys
        rw [keys_bn, keys_bn]
    | false =>
      refine ⟨0, _, x, .root 0 t false (by rw [hroot]; exact h.sub.ok), ?_, hxr, ⟨n, (RbF_black hxr).1 hx⟩, rfl⟩
      have hw := (Z_whole t x).1 h
      by_cases hz : t.root = -1
      · rw [if_pos hz]; exact hw
      · rw [if_neg hz]
        have hi : t.has t.root := by rw [hroot]; exact h.sub.ok.resolve_left (by rw [← hroot]; exact hz)
        rw [paint_same hi (by rw [← redB_of hi, hroot, h.sub.red]; exact hxr)]
        exact hw
  | f :: fs, t, x, n, h, hx, hc => by
    cases hxr : x.isRed with
    | true => exact fill_red h hxr hx hc
    | false =>
      have hxb := (RbF_black hxr).1 hx
      obtain ⟨s, u, c, uv, W⟩ := f
      obtain ⟨c1, c2, c3⟩ := hc
      simp only at c1 c2 c3
      show Filled t u s (plug (bn s u c uv x W) fs).keys
      cases hWr : W.isRed with
      | false =>
        obtain ⟨w, wv, M, D, rfl, hM, hD⟩ := black_split c1 hWr s
        refine fill_black h hxr hxb hM hD c3 (fun e => (c2 e).2) (fun t2 z2 hF => ?_)
        refine fill_all fs z2 hF ?_
        cases c with
        | true => exact c3
        | false => exact c3
      | true =>
        have hcf : c = false := by
          cases hc' : c with
          | false => rfl
          | true => have := (c2 hc').1; rw [hWr] at this; cases this
        subst hcf
        obtain ⟨w, wv, M, D, rfl⟩ := red_split hWr s
        obtain ⟨q1, q2, q3, q4⟩ := (Rb_red ..).1 c1
        obtain ⟨kf1, kf2, kf3, kf4, kf5⟩ := kid_frame h
        simp only at kf1 kf2 kf3 kf4 kf5
        have hW := h.ctx.2.2.1
        obtain ⟨w1, w2, w3, w4⟩ := (Sub_bn ..).1 hW
        have z1 := h.over
        simp only at z1
        have z2 := ((z1.paint false).paintUp true).over
        simp only [F.paint, Bool.not_not] at z2
        have z3 : Z ((t.paint w false).paint u true) (bn s u true uv x (bn s w false wv M D)) fs := (Z_step ..).1 z2
        obtain ⟨tok, z4⟩ := z3.turn
        have z5 : Z (((t.paint w false).paint u true).turn u s) x (⟨s, u, true, uv, M⟩ :: ⟨s, w, false, wv, D⟩ :: fs) := by
          rw [Z_step, Z_step]
          exact z4
        obtain ⟨m, mv, M1, M2, hMe, hM1, hM2⟩ := black_split q3 q1 s
        subst hMe
        obtain ⟨kg1, kg2, kg3, kg4, kg5⟩ := kid_frame z5
        simp only at kg1 kg2 kg3 kg4 kg5
        have hMo := z5.ctx.2.2.1
        obtain ⟨k, t', b', m1, m2, m3, m4, m5⟩ := fill_black z5 hxr hxb hM1 hM2 ⟨q4, (fun e => by cases e), c3⟩ (fun _ => ⟨rfl, by simp⟩) (fun t2 zz hF => by
          refine fill_red zz rfl hF ?_
          exact ⟨q4, (fun e => by cases e), c3⟩)
        refine ⟨k + 1, t', b', .turn k t t' u w s kf3 (by rw [kf1]; exact h.sub.ok) (by rw [kf1, h.sub.red]; exact hxr) kf2 w1 (by rw [redB_of w1, w2]; exact (nodeOf_kid ..).2.2.2) tok (by rw [kg1, z5.sub.red]; exact hxr) (by rw [kg2, hMo.red]; rfl) m1, m2, m3, m4, ?_⟩
        rw [m5]
        show (plug (bn s w false wv (bn s u true uv x (bn s m false mv M1 M2)) D) fs).keys = _
        refine keys_plug ?_
        cases s <;> simp [keys_bn]
end Tr
end Go.Proofs.YtpmknpdnhfnfcaaGreatDoor

namespace Go.Proofs.YtpmknpdnhfnfcaaGreatDoor
namespace Tr
open Wd Tn Ky

/-- All of it but the node e, seen from a place. -/
structure ZE (t : T) (b : B) (fs : List F) (e : Int) : Prop where
  len : t.ns.length ≤ 64
  sub : Sub t b (upOf fs)
  ctx : SubC t fs b.rid
  nod : (b.ids ++ idsC fs).Nodup
  he : t.has e
  out : e ∉ b.ids ∧ e ∉ idsC fs
  rest : ∀ i, t.has i → i ≠ e → i ∉ b.ids → i ∉ idsC fs → t.nd i = nE
theorem ZE_step (t : T) (b : B) (f : F) (fs : List F) (e : Int) : ZE t b (f :: fs) e ↔ ZE t (f.put b) fs e := by
  have hp : (b.ids ++ idsC (f :: fs)).Perm ((f.put b).ids ++ idsC fs) := by
    have h1 := (ids_bn f.s f.i f.c f.v b f.o).symm.append_right (idsC fs)
    have e : b.ids ++ idsC (f :: fs) = b.ids ++ f.i :: f.o.ids ++ idsC fs := by simp [idsC]
    rw [e]
    exact h1
  have hm : ∀ i, (i ∉ (f.put b).ids ∧ i ∉ idsC fs) ↔ (i ∉ b.ids ∧ i ∉ idsC (f :: fs)) := fun i => by
    have := hp.mem_iff (a := i)
    rw [List.mem_append, List.mem_append] at this
    rw [← not_or, ← not_or, this]
  constructor
  · intro h
    obtain ⟨h1, h2, h3, h4⟩ := h.ctx
    exact ⟨h.len, (Sub_bn ..).2 ⟨h1, h2, h.sub, h3⟩, h4, hp.nodup_iff.1 h.nod, h.he, (hm e).2 h.out, fun i hi n0 n1 n2 => h.rest i hi n0 ((hm i).1 ⟨n1, n2⟩).1 ((hm i).1 ⟨n1, n2⟩).2⟩
  · intro h
    obtain ⟨h1, h2, h3, h4⟩ := (Sub_bn ..).1 h.sub
    exact ⟨h.len, h3, ⟨h1, h2, h4, h.ctx⟩, hp.nodup_iff.2 h.nod, h.he, (hm e).1 h.out, fun i hi n0 n1 n2 => h.rest i hi n0 ((hm i).2 ⟨n1, n2⟩).1 ((hm i).2 ⟨n1, n2⟩).2⟩
theorem ZE_plug (t : T) (gs : List F) (e : Int) : ∀ (b : B) (fs : List F), ZE t b (gs ++ fs) e ↔ ZE t (plug b gs) fs e := by
  induction gs with
  | nil => intro b fs; rfl
  | cons g gs ih => intro b fs; rw [List.cons_append, ZE_step, ih]; rfl
theorem Z_plug2 (t : T) (gs : List F) : ∀ (b : B) (fs : List F), Z t b (gs ++ fs) ↔ Z t (plug b gs) fs := by
  induction gs with
  | nil => intro b fs; rfl
  | cons g gs ih => intro b fs; rw [List.cons_append, Z_step, ih]; rfl
theorem plug_append (gs : List F) : ∀ (b : B) (fs : List F), plug b (gs ++ fs) = plug (plug b gs) fs := by
  induction gs with
  | nil => intro b fs; rfl
  | cons g gs ih => intro b fs; exact ih _ _
/-- What is left out is made empty. -/
theorem ZE.drop {t : T} {b : B} {fs : List F} {e : Int} (h : ZE t b fs e) : Z (t.put e nE) b fs := by
  have hl : (t.put e nE).ns.length = t.ns.length := put_len _ _ _
  have q : ∀ j, 0 ≤ j → j ≠ e → (t.put e nE).nd j = t.nd j := fun j hj hne => by rw [nd_put h.he _ hj, if_neg hne]
  refine ⟨by rw [hl]; exact h.len, h.sub.congr hl (fun j hj => q j (h.sub.has j hj).1.1 (fun w => h.out.1 (by rw [← w]; exact hj))), SubC.congr hl rfl (fun j hj => q j (h.ctx.has j hj).1 (fun w => h.out.2 (by rw [← w]; exact hj))) h.ctx, h.nod, fun j hj m1 m2 => ?_⟩
  have hj' := (has_len hl).1 hj
  by_cases hje : j = e
  · subst hje; exact nd_put_same h.he _
  · rw [q j hj'.1 hje]; exact h.rest j hj' hje m1 m2
/-- A node with one child, or none, is left out. -/
theorem Z.splice {t : T} {s : Bool} {z : Int} {c : Bool} {v : Int} {x : B} {fs : List F} (h : Z t (bn s z c v x .L) fs) :
    ZE (t.hang (upOf fs) (sd fs) x.rid) x fs z ∧ (t.hang (upOf fs) (sd fs) x.rid).nd z = t.nd z := by
  obtain ⟨h1, h2, h3, -⟩ := (Sub_bn ..).1 h.sub
  have hu := h.ctx.ok
  have hl : (t.hang (upOf fs) (sd fs) x.rid).ns.length = t.ns.length := hang_len _ _ _ _
  have hn := (((ids_bn s z c v x .L).append_right (idsC fs)).nodup_iff).1 h.nod
  rw [List.append_assoc, List.nodup_append] at hn
  obtain ⟨nX, n2, n3⟩ := hn
  have n2' : (z :: idsC fs).Nodup := by simpa [B.ids] using n2
  obtain ⟨n4, nC⟩ := List.nodup_cons.1 n2'
  have n3' : ∀ a ∈ x.ids, a ≠ z ∧ a ∉ idsC fs := fun a ha => ⟨n3 a ha z (by simp), fun w => n3 a ha a (by simp [w]) rfl⟩
  have hxm := rid_mem x
  have hum := upOf_mem fs
  have hzx : z ≠ x.rid := fun e => hxm.elim (fun w => has_ne h1 (e.trans w)) (fun w => (n3' x.rid w).1 e.symm)
  have hzu : z ≠ upOf fs := fun e => hum.elim (fun w => has_ne h1 (e.trans w)) (fun w => n4 (by rw [e]; exact w))
  have nd1 : ∀ {j : Int}, 0 ≤ j → (t.hang (upOf fs) (sd fs) x.rid).nd j = _ := fun hj => nd_hang hu h3.ok (sd fs) hj
  have other : ∀ j, 0 ≤ j → j ≠ x.rid → j ≠ upOf fs → (t.hang (upOf fs) (sd fs) x.rid).nd j = t.nd j := fun j hj e1 e2 => by rw [nd1 hj, if_neg e1, if_neg e2]
  have hxu : x.rid ≠ -1 → x.rid ≠ upOf fs := fun w e => hum.elim (fun q => w (e.trans q)) (fun q => (n3' x.rid (hxm.resolve_left w)).2 (by rw [e]; exact q))
  refine ⟨⟨by rw [hl]; exact h.len, ?_, ?_, ?_, (has_len hl).2 h1, ⟨fun w => (n3' z w).1 rfl, n4⟩, fun j hj m0 m1 m2 => ?_⟩, other z h1.1 hzx hzu⟩
  · refine h3.congrUp hl nX (fun j hj hne => other j (h3.has j hj).1.1 hne (fun e => hum.elim (fun q => by have := (h3.has j hj).1.1; omega) (fun q => (n3' j hj).2 (by rw [e]; exact q)))) (fun hne => ?_)
    have h0 := (h3.ok.resolve_left hne).1
    rw [nd1 h0, if_pos rfl, if_neg (hxu hne)]
  · refine SubC.put hl nC (fun j hj hne => other j (h.ctx.has j hj).1 (fun e => ?_) hne) (root_hang ..) (fun f gs e => ?_) h.ctx
    · rcases hxm with w | w
      · have := (h.ctx.has j hj).1; omega
      · exact (n3' x.rid w).2 (by rw [← e]; exact hj)
    · subst e
      have hfi := h.ctx.1
      have hne : f.i ≠ x.rid := fun e => hxm.elim (fun w => has_ne hfi (e.trans w)) (fun w => (n3' x.rid w).2 (by rw [← e]; simp [idsC]))
      have q := nd1 (j := f.i) hfi.1
      rw [if_neg hne, if_pos (show f.i = upOf (f :: gs) from rfl)] at q
      exact q
  · rw [List.nodup_append]; exact ⟨nX, nC, fun a ha b hb e => (n3' a ha).2 (by rw [e]; exact hb)⟩
  · have hj' := (has_len hl).1 hj
    rw [other j hj'.1 (fun e => hxm.elim (fun w => has_ne hj' (e.trans w)) (fun w => m1 (by rw [e]; exact w))) (fun e => hum.elim (fun w => has_ne hj' (e.trans w)) (fun w => m2 (by rw [e]; exact w)))]
    refine h.rest j hj' (fun w => ?_) m2
    have := (ids_bn s z c v x .L).mem_iff.1 w
    simp only [List.mem_append, List.mem_cons, B.ids, List.not_mem_nil, or_false] at this
    exact this.elim m1 m0

set_option maxHeartbeats 1000000 in
/-- y, which is left out, takes z's place. -/
theorem ZE.repl {t : T} {z : Int} {c : Bool} {v : Int} {R A : B} {fs : List F} {y : Int} (h : ZE t (bn true z c v R A) fs y) (hi : (t.nd y).inn = true) :
    let r2 := t.hang (t.up z) (t.side z) y
    let r3 := r2.hang y false (r2.kid z false)
    let r4 := r3.hang y true (r3.kid z true)
    t.ok (t.up z) ∧ r2.ok (r2.kid z false) ∧ r3.ok (r3.kid z true) ∧ ZE (r4.paint y (r4.nd z).red) (bn true y c (t.nd y).v R A) fs z := by
  intro r2 r3 r4
  obtain ⟨h1, h2, hR, hA⟩ := (Sub_bn ..).1 h.sub
  have hu := h.ctx.ok
  obtain ⟨u, hu0⟩ : ∃ u, upOf fs = u := ⟨_, rfl⟩
  obtain ⟨r, hr0⟩ : ∃ r, R.rid = r := ⟨_, rfl⟩
  obtain ⟨a, ha0⟩ : ∃ a, A.rid = a := ⟨_, rfl⟩
  obtain ⟨sz, hsz⟩ : ∃ s, t.side z = s := ⟨_, rfl⟩
  rw [hr0, ha0, hu0] at h2
  rw [hu0] at hu
  have hro := hR.ok
  have hao := hA.ok
  rw [hr0] at hro
  rw [ha0] at hao
  have hn := (((ids_bn true z c v R A).append_right (idsC fs)).nodup_iff).1 h.nod
  rw [List.append_assoc, List.cons_append, List.nodup_append] at hn
  obtain ⟨nR, n2, n3⟩ := hn
  obtain ⟨n4, n5⟩ := List.nodup_cons.1 n2
  rw [List.nodup_append] at n5
  obtain ⟨nA, nC, n6⟩ := n5
  have yo : y ∉ R.ids ∧ y ≠ z ∧ y ∉ A.ids ∧ y ∉ idsC fs := by
    have := h.out.1
    rw [(ids_bn true z c v R A).mem_iff] at this
    simp only [List.mem_append, List.mem_cons, not_or] at this
    exact ⟨this.1, this.2.1, this.2.2, h.out.2⟩
  have hrm : r = -1 ∨ r ∈ R.ids := by rw [← hr0]; exact rid_mem R
  have ham : a = -1 ∨ a ∈ A.ids := by rw [← ha0]; exact rid_mem A
  have hum : u = -1 ∨ u ∈ idsC fs := by rw [← hu0]; exact upOf_mem fs
  have hy := h.he
  have y0 := hy.1
  have z0 := h1.1
  have hyr : y ≠ r := fun e => hrm.elim (fun w => by omega) (fun w => yo.1 (by rw [e]; exact w))
  have hya : y ≠ a := fun e => ham.elim (fun w => by omega) (fun w => yo.2.2.1 (by rw [e]; exact w))
  have hyu : y ≠ u := fun e => hum.elim (fun w => by omega) (fun w => yo.2.2.2 (by rw [e]; exact w))
  have hzr : z ≠ r := fun e => hrm.elim (fun w => by omega) (fun w => n3 r w z (by simp) e.symm)
  have hza : z ≠ a := fun e => ham.elim (fun w => by omega) (fun w => n4 (by rw [e]; simp [w]))
  have hzu : z ≠ u := fun e => hum.elim (fun w => by omega) (fun w => n4 (by rw [e]; simp [w]))
  have hra : r ≠ -1 → r ≠ a := fun q e => ham.elim (fun w => q (e.trans w)) (fun w => n3 r (hrm.resolve_left q) a (by simp [w]) e)
  have hru : r ≠ -1 → r ≠ u := fun q e => hum.elim (fun w => q (e.trans w)) (fun w => n3 r (hrm.resolve_left q) u (by simp [w]) e)
  have hau : a ≠ -1 → a ≠ u := fun q e => hum.elim (fun w => q (e.trans w)) (fun w => n6 a (ham.resolve_left q) u w e)
  have har : a ≠ -1 → a ≠ r := fun q e => hrm.elim (fun w => q (e.trans w)) (fun w => n3 r w a (by simp [ham.resolve_left q]) e.symm)
  have hua : u ≠ -1 → u ≠ a := fun q e => hau (fun w => q (e.trans w)) e.symm
  have hur : u ≠ -1 → u ≠ r := fun q e => hru (fun w => q (e.trans w)) e.symm
  have ez : t.up z = u := by unfold T.up; rw [h2]; rfl
  have l2 : r2.ns.length = t.ns.length := hang_len _ _ _ _
  have l3 : r3.ns.length = t.ns.length := (hang_len _ _ _ _).trans l2
  have l4 : r4.ns.length = t.ns.length := (hang_len _ _ _ _).trans l3
  have e2 : r2 = t.hang u sz y := by show t.hang (t.up z) (t.side z) y = _; rw [ez, hsz]
  have nd2 : ∀ {j : Int}, 0 ≤ j → r2.nd j = if j = y then (if j = u then (t.nd j).setKid sz y else t.nd j).setUp u else (if j = u then (t.nd j).setKid sz y else t.nd j) := fun {j} hj => by
    have := nd_hang (t := t) hu (.inr hy) sz hj
    rw [← e2] at this
    exact this
  have z2 : r2.nd z = t.nd z := by rw [nd2 z0, if_neg (fun e => yo.2.1 e.symm), if_neg hzu]
  have k2 : r2.kid z false = a := by unfold T.kid; rw [z2, h2]; rfl
  have e3 : r3 = r2.hang y false a := by show r2.hang y false (r2.kid z false) = _; rw [k2]
  have nd3 : ∀ {j : Int}, 0 ≤ j → r3.nd j = if j = a then (if j = y then (r2.nd j).setKid false a else r2.nd j).setUp y else (if j = y then (r2.nd j).setKid false a else r2.nd j) := fun {j} hj => by
    have := nd_hang (t := r2) (.inr ((has_len l2).2 hy)) ((ok_len l2).2 hao) false hj
    rw [← e3] at this
    exact this
  have z3 : r3.nd z = t.nd z := by rw [nd3 z0, if_neg hza, if_neg (fun e => yo.2.1 e.symm), z2]
  have k3 : r3.kid z true = r := by unfold T.kid; rw [z3, h2]; rfl
  have e4 : r4 = r3.hang y true r := by show r3.hang y true (r3.kid z true) = _; rw [k3]
  have nd4 : ∀ {j : Int}, 0 ≤ j → r4.nd j = if j = r then (if j = y then (r3.nd j).setKid true r else r3.nd j).setUp y else (if j = y then (r3.nd j).setKid true r else r3.nd j) := fun {j} hj => by
    have := nd_hang (t := r3) (.inr ((has_len l3).2 hy)) ((ok_len l3).2 hro) true hj
    rw [← e4] at this
    exact this
  have z4 : r4.nd z = t.nd z := by rw [nd4 z0, if_neg hzr, if_neg (fun e => yo.2.1 e.symm), z3]
  have c4 : (r4.nd z).red = c := by rw [z4, h2]; rfl
  refine ⟨by rw [ez]; exact hu, by rw [k2]; exact (ok_len l2).2 hao, by rw [k3]; exact (ok_len l3).2 hro, ?_⟩
  rw [c4]
  have l5 : (r4.paint y c).ns.length = t.ns.length := (paint_len _ _ _).trans l4
  have nd5 : ∀ {j : Int}, 0 ≤ j → (r4.paint y c).nd j = _ := fun hj => nd_put (t := r4) ((has_len l4).2 hy) ((r4.nd y).setRed c) hj
  have other : ∀ j, 0 ≤ j → j ≠ y → j ≠ r → j ≠ a → j ≠ u → (r4.paint y c).nd j = t.nd j := fun j hj q1 q2 q3 q4 => by
    rw [nd5 hj, if_neg q1, nd4 hj, if_neg q2, if_neg q1, nd3 hj, if_neg q3, if_neg q1, nd2 hj, if_neg q1, if_neg q4]
  have ey : (r4.paint y c).nd y = nodeOf true c (t.nd y).v r a u := by
    rw [nd5 y0, if_pos rfl, nd4 y0, if_neg hyr, if_pos rfl, nd3 y0, if_neg hya, if_pos rfl, nd2 y0, if_pos rfl, if_neg hyu]
    unfold N.setRed N.setKid N.setUp nodeOf
    simp [hi]
  have er : r ≠ -1 → (r4.paint y c).nd r = (t.nd r).setUp y := fun q => by
    have r0 := (hro.resolve_left q).1
    rw [nd5 r0, if_neg (fun e => hyr e.symm), nd4 r0, if_pos rfl, if_neg (fun e => hyr e.symm), nd3 r0, if_neg (hra q), if_neg (fun e => hyr e.symm), nd2 r0, if_neg (fun e => hyr e.symm), if_neg (hru q)]
  have ea : a ≠ -1 → (r4.paint y c).nd a = (t.nd a).setUp y := fun q => by
    have a0 := (hao.resolve_left q).1
    rw [nd5 a0, if_neg (fun e => hya e.symm), nd4 a0, if_neg (har q), if_neg (fun e => hya e.symm), nd3 a0, if_pos rfl, if_neg (fun e => hya e.symm), nd2 a0, if_neg (fun e => hya e.symm), if_neg (hau q)]
  have eu : u ≠ -1 → (r4.paint y c).nd u = (t.nd u).setKid sz y := fun q => by
    have u0 := (hu.resolve_left q).1
    rw [nd5 u0, if_neg (fun e => hyu e.symm), nd4 u0, if_neg (hur q), if_neg (fun e => hyu e.symm), nd3 u0, if_neg (hua q), if_neg (fun e => hyu e.symm), nd2 u0, if_neg (fun e => hyu e.symm), if_pos rfl]
  have eroot : (r4.paint y c).root = if u = -1 then y else t.root := by
    show r4.root = _
    rw [e4, root_hang, if_neg (by omega), e3, root_hang, if_neg (by omega), e2, root_hang]
  have ctx0 := h.ctx
  have hzs : ∀ f gs, fs = f :: gs → sz = f.s := fun f gs e => by
    subst e
    have zz : t.side z = f.s := by
      have hfi := ctx0.1
      have hfz : f.i = u := hu0
      unfold T.side
      rw [ez, ← hfz, decide_eq_true (has_ne hfi), Bool.true_and]
      have hk : t.kid f.i true = if f.s then z else f.o.rid := by unfold T.kid N.kid; rw [ctx0.2.1]; rfl
      rw [hk]
      cases hs : f.s
      · simp only [Bool.false_eq_true, if_false, decide_eq_false_iff_not]
        intro e
        rcases rid_mem f.o with w | w
        · omega
        · exact n4 (by rw [← e]; simp [idsC, w])
      · simp
    exact hsz.symm.trans zz
  generalize r4.paint y c = t' at l5 other ey er ea eu eroot
  have hz' : t'.nd z = t.nd z := other z z0 (fun e => yo.2.1 e.symm) hzr hza hzu
  refine ⟨by rw [l5]; exact h.len, (Sub_bn ..).2 ⟨(has_len l5).2 hy, by rw [ey, hr0, ha0, hu0], ?_, ?_⟩, ?_, ?_, (has_len l5).2 h1, ?_, fun j hj m0 m1 m2 => ?_⟩
  · refine hR.congrUp l5 nR (fun j hj hne => ?_) (fun hne => by rw [hr0] at hne ⊢; exact er hne)
    rw [hr0] at hne
    have j0 := (hR.has j hj).1.1
    exact other j j0 (fun e => yo.1 (by rw [← e]; exact hj)) hne (fun e => ham.elim (fun w => by omega) (fun w => n3 j hj a (by simp [w]) e)) (fun e => hum.elim (fun w => by omega) (fun w => n3 j hj u (by simp [w]) e))
  · refine hA.congrUp l5 nA (fun j hj hne => ?_) (fun hne => by rw [ha0] at hne ⊢; exact ea hne)
    rw [ha0] at hne
    have j0 := (hA.has j hj).1.1
    exact other j j0 (fun e => yo.2.2.1 (by rw [← e]; exact hj)) (fun e => hrm.elim (fun w => by omega) (fun w => n3 r w j (by simp [hj]) e.symm)) hne (fun e => hum.elim (fun w => by omega) (fun w => n6 j hj u w e))
  · refine SubC.put l5 nC (fun j hj hne => ?_) (by rw [hu0]; exact eroot) (fun f gs e => ?_) h.ctx
    · rw [hu0] at hne
      have j0 := (h.ctx.has j hj).1
      exact other j j0 (fun e => yo.2.2.2 (by rw [← e]; exact hj)) (fun e => hrm.elim (fun w => by omega) (fun w => n3 r w j (by simp [hj]) e.symm)) (fun e => ham.elim (fun w => by omega) (fun w => n6 a w j hj e.symm)) hne
    · have hs := hzs f gs e
      subst e
      have hfz : f.i = u := hu0
      rw [hfz]
      have q := eu (by rw [← hfz]; exact has_ne h.ctx.1)
      rw [hs] at q
      exact q
  · refine (((ids_bn true y c (t.nd y).v R A).append_right (idsC fs)).nodup_iff).2 ?_
    rw [List.append_assoc, List.cons_append, List.nodup_append]
    refine ⟨nR, List.nodup_cons.2 ⟨fun w => (List.mem_append.1 w).elim yo.2.2.1 yo.2.2.2, List.nodup_append.2 ⟨nA, nC, n6⟩⟩, fun p hp q hq e => ?_⟩
    rcases List.mem_cons.1 hq with rfl | hq
    · exact yo.1 (by rw [← e]; exact hp)
    · exact n3 p hp q (List.mem_cons_of_mem _ hq) e
  · refine ⟨fun w => ?_, fun w => n4 (List.mem_append.2 (.inr w))⟩
    have := (ids_bn true y c (t.nd y).v R A).mem_iff.1 w
    simp only [List.mem_append, List.mem_cons] at this
    rcases this with w | w | w
    · exact n3 z w z (by simp) rfl
    · exact yo.2.1 w.symm
    · exact n4 (List.mem_append.2 (.inl w))
  · have hj' := (has_len l5).1 hj
    have hnm : j ∉ R.ids ∧ j ≠ y ∧ j ∉ A.ids := by
      rw [(ids_bn true y c (t.nd y).v R A).mem_iff] at m1
      simp only [List.mem_append, List.mem_cons, not_or] at m1
      exact m1
    have j0 := hj'.1
    rw [other j j0 hnm.2.1 (fun e => hrm.elim (fun w => by omega) (fun w => hnm.1 (by rw [e]; exact w))) (fun e => ham.elim (fun w => by omega) (fun w => hnm.2.2 (by rw [e]; exact w))) (fun e => hum.elim (fun w => by omega) (fun w => m2 (by rw [e]; exact w)))]
    refine h.rest j hj' hnm.2.1 (fun w => ?_) m2
    have := (ids_bn true z c v R A).mem_iff.1 w
    simp only [List.mem_append, List.mem_cons] at this
    rcases this with w | w | w
    · exact hnm.1 w
    · exact m0 w
    · exact hnm.2.2 w
end Tr
end Go.Proofs.YtpmknpdnhfnfcaaGreatDoor

namespace Go.Proofs.YtpmknpdnhfnfcaaGreatDoor
namespace Tr
open Wd Tn Ky

/-- One step down, with the colors. -/
theorem step_down {fs : List F} {s : Bool} {i : Int} {c : Bool} {v : Int} {x o : B} {n : Nat} (hb : Rb (bn s i c v x o) n) (hc : RbC fs n) (hcr : c = true → topRed fs = false ∧ fs ≠ []) :
    ∃ n', Rb x n' ∧ RbC (⟨s, i, c, v, o⟩ :: fs) n' ∧ (x.isRed = true → topRed (⟨s, i, c, v, o⟩ :: fs) = false ∧ (⟨s, i, c, v, o⟩ :: fs) ≠ []) := by
  cases c with
  | true =>
    obtain ⟨q1, q2, q3, q4⟩ := (Rb_red ..).1 hb
    exact ⟨n, q3, ⟨q4, fun _ => ⟨q2, (hcr rfl).1, (hcr rfl).2⟩, hc⟩, fun e => by rw [q1] at e; cases e⟩
  | false =>
    obtain ⟨n', rfl, q3, q4⟩ := (Rb_black ..).1 hb
    exact ⟨n', q3, ⟨q4, (fun e => by cases e), hc⟩, fun _ => ⟨rfl, by simp⟩⟩
/-- A node is found. -/
theorem find_all {t : T} {z : Int} : (b : B) → ∀ {fs : List F} {n : Nat}, Z t b fs → Rb b n → RbC fs n → (b.isRed = true → topRed fs = false ∧ fs ≠ []) → z ∈ b.ids →
    ∃ (fs' : List F) (c : Bool) (v : Int) (kk : Bool → B) (n' : Nat), Z t (.N z c v kk) fs' ∧ plug (.N z c v kk) fs' = plug b fs ∧ Rb (.N z c v kk) n' ∧ RbC fs' n' ∧ (c = true → topRed fs' = false ∧ fs' ≠ [])
  | .L, _, _, _, _, _, _, hz => by cases hz
  | .N i c v kk, fs, n, h, hb, hc, hcr, hz => by
    have go : ∀ s : Bool, z ∈ (kk s).ids → ∃ (fs' : List F) (c' : Bool) (v' : Int) (kk' : Bool → B) (n' : Nat), Z t (.N z c' v' kk') fs' ∧ plug (.N z c' v' kk') fs' = plug (.N i c v kk) fs ∧ Rb (.N z c' v' kk') n' ∧ RbC fs' n' ∧ (c' = true → topRed fs' = false ∧ fs' ≠ []) := fun s hs => by
      have he := bn_eta s i c v kk
      have hz' : Z t (kk s) (⟨s, i, c, v, kk (!s)⟩ :: fs) := by
        rw [Z_step]
        show Z t (bn s i c v (kk s) (kk (!s))) fs
        rw [← he]; exact h
      rw [he] at hb
      obtain ⟨n', r1, r2, r3⟩ := step_down hb hc hcr
      obtain ⟨fs', c', v', kk', m, a1, a2, a3⟩ := find_all (kk s) hz' r1 r2 r3 hs
      refine ⟨fs', c', v', kk', m, a1, ?_, a3⟩
      rw [a2]
      show plug (bn s i c v (kk s) (kk (!s))) fs = _
      rw [← he]
    simp only [B.ids, List.mem_append, List.mem_cons] at hz
    rcases hz with hz | rfl | hz
    · exact go false hz
    · exact ⟨fs, c, v, kk, n, h, rfl, hb, hc, hcr⟩
    · exact go true hz
/-- The one that is come to by Left. -/
theorem left_all {t : T} : (b : B) → b ≠ .L → ∀ {fs : List F} {n : Nat}, Z t b fs → Rb b n → RbC fs n → (b.isRed = true → topRed fs = false ∧ fs ≠ []) →
    ∃ (k : Nat) (y : Int) (cy : Bool) (vy : Int) (x : B) (gs : List F) (n' : Nat), Leftmost t k b.rid y ∧ Z t (bn true y cy vy x .L) (gs ++ fs) ∧ plug (bn true y cy vy x .L) gs = b ∧ (∀ g ∈ gs, g.s = false) ∧ Rb (bn true y cy vy x .L) n' ∧ RbC (gs ++ fs) n' ∧ (cy = true → topRed (gs ++ fs) = false ∧ gs ++ fs ≠ [])
  | .L, hne, _, _, _, _, _, _ => absurd rfl hne
  | .N i c v kk, _, fs, n, h, hb, hc, hcr => by
    have hi : t.has i := h.sub.1
    have hkid : t.kid i false = (kk false).rid := by unfold T.kid N.kid; rw [h.sub.2.1]; rfl
    by_cases hl : kk false = .L
    · have e : B.N i c v kk = bn true i c v (kk true) .L := by rw [bn_eta true i c v kk]; simp [hl]
      refine ⟨0, i, c, v, kk true, [], n, .stop 0 i hi (by rw [hkid, hl]; rfl), by rw [← e]; exact h, e.symm, by simp, by rw [← e]; exact hb, hc, hcr⟩
    · have he := bn_eta false i c v kk
      have hz' : Z t (kk false) (⟨false, i, c, v, kk (!false)⟩ :: fs) := by
        rw [Z_step]
        show Z t (bn false i c v (kk false) (kk (!false))) fs
        rw [← he]; exact h
      rw [he] at hb
      obtain ⟨n', r1, r2, r3⟩ := step_down hb hc hcr
      obtain ⟨k, y, cy, vy, x, gs, m, a1, a2, a3, a4, a5, a6, a7⟩ := left_all (kk false) hl hz' r1 r2 r3
      have hne : t.kid i false ≠ -1 := by
        rw [hkid]
        cases hk : kk false with
        | L => exact absurd hk hl
        | N i' c' v' k' => have := h.sub.2.2.1; rw [hk] at this; exact has_ne this.1
      have ea : gs ++ [⟨false, i, c, v, kk (!false)⟩] ++ fs = gs ++ ⟨false, i, c, v, kk (!false)⟩ :: fs := by simp
      refine ⟨k + 1, y, cy, vy, x, gs ++ [⟨false, i, c, v, kk (!false)⟩], m, .step k i y hi hne (by rw [hkid]; exact a1), by rw [ea]; exact a2, ?_, fun g hg => ?_, a5, by rw [ea]; exact a6, by rw [ea]; exact a7⟩
      · rw [plug_append, a3]
        show bn false i c v (kk false) (kk (!false)) = _
        rw [← he]
      · rcases List.mem_append.1 hg with hg | hg
        · exact a4 g hg
        · simp at hg; rw [hg]
theorem keysL_left {gs : List F} (h : ∀ g ∈ gs, g.s = false) : keysL gs = [] := by
  induction gs with
  | nil => rfl
  | cons g gs ih => simp [keysL, h g (by simp), ih (fun g' hg => h g' (by simp [hg]))]
/-- Another node of the same color in a frame. -/
theorem RbC_swap {gs fs : List F} {s c : Bool} {i i' v v' : Int} {o : B} : ∀ {n : Nat}, RbC (gs ++ ⟨s, i, c, v, o⟩ :: fs) n → RbC (gs ++ ⟨s, i', c, v', o⟩ :: fs) n := by
  induction gs with
  | nil => intro n h; exact h
  | cons g gs ih =>
    intro n h
    obtain ⟨h1, h2, h3⟩ := h
    refine ⟨h1, fun e => ?_, ih h3⟩
    obtain ⟨q1, q2, -⟩ := h2 e
    refine ⟨q1, ?_, by simp⟩
    cases gs with
    | nil => exact q2
    | cons g' gs' => exact q2
theorem mem_idsC (gs : List F) (f : F) (fs : List F) : f.i ∈ idsC (gs ++ f :: fs) := by
  induction gs with
  | nil => simp [idsC]
  | cons g gs ih => simp only [List.cons_append, idsC, List.mem_cons, List.mem_append]; exact .inr (.inr ih)
/-- A right tree, and one key less. -/
theorem del_all {m : Int} {t : T} {b : B} {z : Int} (hw : Whole t b) (hr : RightB m b) (hz : t.has z) (hi : (t.nd z).inn = true) :
    ∃ (t' : T) (b' : B), Remove t z t' ∧ Whole t' b' ∧ RightB m b' ∧ ∃ l v r, b.keys = l ++ (v, z) :: r ∧ b'.keys = l ++ r := by
  obtain ⟨r1, r2, r3⟩ := hr
  obtain ⟨N0, hN0⟩ := (plain_iff b).1.1 r3
  have hmem : z ∈ b.ids := by
    refine Classical.byContradiction fun hn => ?_
    have := hw.rest z hz hn
    rw [this] at hi
    cases hi
  obtain ⟨fs, c, v, kk, n, h, hpl, hb, hc, hcr⟩ := find_all b ((Z_whole t b).2 hw) hN0 trivial (fun e => by rw [r1] at e; cases e) hmem
  have hup := place_up h (has_ne hz)
  have hup1 : t.up z = upOf fs := hup.1
  have hup2 : t.side z = sd fs := hup.2
  have hred : (t.nd z).red = c := by rw [h.sub.2.1]
  have hkl : t.kid z false = (kk false).rid := by unfold T.kid N.kid; rw [h.sub.2.1]; rfl
  have hkr : t.kid z true = (kk true).rid := by unfold T.kid N.kid; rw [h.sub.2.1]; rfl
  have huo : t.ok (t.up z) := by rw [hup1]; exact h.ctx.ok
  have ne_of : ∀ s : Bool, kk s ≠ .L → (kk s).rid ≠ -1 := fun s hs => by
    have hsub : Sub t (kk s) z := by cases s; exact h.sub.2.2.1; exact h.sub.2.2.2
    cases hk : kk s with
    | L => exact absurd hk hs
    | N i' c' v' k' => rw [hk] at hsub; exact has_ne hsub.1
  -- what follows of the tree that comes out
  have finish : ∀ (t' : T) (b' : B) (l r : List K), Remove t z t' → Whole t' b' → b'.isRed = false → (∃ mm, Rb b' mm) → b.keys = l ++ (v, z) :: r → b'.keys = l ++ r →
      ∃ (t' : T) (b' : B), Remove t z t' ∧ Whole t' b' ∧ RightB m b' ∧ ∃ l v r, b.keys = l ++ (v, z) :: r ∧ b'.keys = l ++ r := fun t' b' l r q1 q2 q3 q4 q5 q6 => by
    refine ⟨t', b', q1, q2, ⟨q3, ?_, (plain_iff b').1.2 q4⟩, l, v, r, q5, q6⟩
    rw [q6]
    rw [q5] at r2
    unfold okK at *
    exact r2.sublist (List.Sublist.append_left (List.sublist_cons_self _ _) _)
  have hkeys : b.keys = keysL fs ++ ((kk false).keys ++ (v, z) :: (kk true).keys) ++ keysR fs := by
    have e : plug (.N z c v kk) fs = b := hpl
    rw [← e, keys_all]
    rfl
  by_cases hlr : kk false = .L ∨ kk true = .L
  · -- a child lacks
    obtain ⟨s, hs, hout⟩ : ∃ s : Bool, kk (!s) = .L ∧ Out t z (t.hang (t.up z) (t.side z) (t.kid z s)) (t.nd z).red (t.up z) (t.side z) := by
      by_cases hl : kk false = .L
      · exact ⟨true, hl, .left (by rw [hkl, hl]; rfl) (by rw [hkr]; exact h.sub.2.2.2.ok)⟩
      · have hr' := hlr.resolve_left hl
        exact ⟨false, hr', .right (by rw [hkl]; exact ne_of false hl) (by rw [hkl]; exact h.sub.2.2.1.ok) (by rw [hkr, hr']; rfl)⟩
    have he : B.N z c v kk = bn s z c v (kk s) .L := by rw [bn_eta s z c v kk, hs]
    have hks : t.kid z s = (kk s).rid := by cases s; exact hkl; exact hkr
    rw [hks, hup1, hup2] at hout
    rw [he] at h hb
    obtain ⟨ze, -⟩ := h.splice
    have z2 := ze.drop
    have hkeys2 : ∃ l r, b.keys = l ++ (v, z) :: r ∧ (plug (kk s) fs).keys = l ++ r := by
      rw [hkeys, keys_all]
      cases s with
      | true => exact ⟨keysL fs, (kk true).keys ++ keysR fs, by rw [show kk false = .L from hs]; simp [B.keys], by simp⟩
      | false => exact ⟨keysL fs ++ (kk false).keys, keysR fs, by rw [show kk true = .L from hs]; simp [B.keys], by simp⟩
    obtain ⟨l, r, k1, k2⟩ := hkeys2
    cases c with
    | true =>
      obtain ⟨q1, q2, q3, q4⟩ := (Rb_red ..).1 hb
      obtain ⟨p1, p2⟩ := Rb_plug q3 hc (fun e => by rw [q1] at e; cases e)
      exact finish _ _ l r ⟨hz, huo, _, _, _, _, hout, .inl ⟨hred, rfl⟩⟩ ((Z_plug ..).1 z2) p1 p2 k1 k2
    | false =>
      obtain ⟨n', rfl, q3, q4⟩ := (Rb_black ..).1 hb
      obtain ⟨k, t', b', m1, m2, m3, m4, m5⟩ := fill_all fs z2 (RbF_of q3) hc
      exact finish _ _ l r ⟨hz, huo, _, _, _, _, hout, .inr ⟨hred, k, m1⟩⟩ m2 m3 m4 k1 (m5.trans k2)
  · -- both are there
    have hl : kk false ≠ .L := fun e => hlr (.inl e)
    have hr' : kk true ≠ .L := fun e => hlr (.inr e)
    have he := bn_eta true z c v kk
    have hz1 : Z t (kk true) (⟨true, z, c, v, kk false⟩ :: fs) := by
      rw [Z_step]
      show Z t (bn true z c v (kk true) (kk false)) fs
      have : B.N z c v kk = bn true z c v (kk true) (kk false) := he
      rw [← this]; exact h
    rw [he] at hb
    obtain ⟨n', s1, s2, s3⟩ := step_down hb hc hcr
    obtain ⟨k, y, cy, vy, x, gs, n2, a1, a2, a3, a4, a5, a6, a7⟩ := left_all (kk true) hr' hz1 s1 s2 s3
    have hsy := (Sub_bn ..).1 a2.sub
    have hyh : t.has y := hsy.1
    have hyp := place_up a2 (show (bn true y cy vy x .L).rid ≠ -1 from has_ne hyh)
    have hyu : t.up y = upOf (gs ++ ⟨true, z, c, v, kk false⟩ :: fs) := hyp.1
    have hys : t.side y = sd (gs ++ ⟨true, z, c, v, kk false⟩ :: fs) := hyp.2
    have hyk : t.kid y true = x.rid := by unfold T.kid; rw [hsy.2.1]; rfl
    have hyred : (t.nd y).red = cy := by rw [hsy.2.1]; rfl
    have hyv : (t.nd y).v = vy := by rw [hsy.2.1]; rfl
    have hyi : (t.nd y).inn = true := by rw [hsy.2.1]; rfl
    obtain ⟨ze, hnd⟩ := a2.splice
    have er1 : rep1 t y = t.hang (upOf (gs ++ ⟨true, z, c, v, kk false⟩ :: fs)) (sd (gs ++ ⟨true, z, c, v, kk false⟩ :: fs)) x.rid := by unfold rep1; rw [hyu, hys, hyk]
    rw [← er1] at ze hnd
    have ze1 : ZE (rep1 t y) (bn true z c v (plug x gs) (kk false)) fs y := by
      have := (ZE_plug (rep1 t y) gs y x _).1 ze
      rw [ZE_step] at this
      exact this
    have hrep := ze1.repl (by rw [hnd]; exact hyi)
    simp only at hrep
    obtain ⟨o1, o2, o3, ze2⟩ := hrep
    have ho : RepOk t z y := ⟨hz, hyh, by rw [hyu]; exact a2.ctx.ok, by rw [hyk]; exact hsy.2.2.1.ok, o1, o2, o3⟩
    rw [hnd, hyv] at ze2
    have z6 : Z ((rep5 t z y).put z nE) x (gs ++ ⟨true, y, c, vy, kk false⟩ :: fs) := by
      rw [Z_plug2, Z_step]
      exact ze2.drop
    have hhole : (if t.up y = z then y else t.up y) = upOf (gs ++ ⟨true, y, c, vy, kk false⟩ :: fs) ∧ t.side y = sd (gs ++ ⟨true, y, c, vy, kk false⟩ :: fs) := by
      rw [hyu, hys]
      cases gs with
      | nil => exact ⟨if_pos rfl, rfl⟩
      | cons g gs =>
        refine ⟨if_neg (fun e => ?_), rfl⟩
        have hd := a2.nod
        have h1 : (g.i :: (g.o.ids ++ idsC (gs ++ ⟨true, z, c, v, kk false⟩ :: fs))).Nodup := (List.nodup_append.1 hd).2.1
        have hg : g.i = z := e
        refine (List.nodup_cons.1 h1).1 ?_
        rw [hg]
        refine List.mem_append.2 (.inr ?_)
        exact mem_idsC gs _ fs
    have hout : Out t z (rep5 t z y) (t.nd y).red (if t.up y = z then y else t.up y) (t.side y) := .both k y (by rw [hkl]; exact ne_of false hl) (by rw [hkr]; exact ne_of true hr') (by rw [hkr]; exact a1) ho
    rw [hhole.1, hhole.2] at hout
    have hkx : ∀ w : B, (plug w gs).keys = w.keys ++ keysR gs := fun w => by rw [keys_all, keysL_left a4]; simp
    have k1 : b.keys = (keysL fs ++ (kk false).keys) ++ (v, z) :: ((vy, y) :: x.keys ++ keysR gs ++ keysR fs) := by
      rw [hkeys, ← a3, hkx, keys_bn]
      simp [B.keys]
    have k2 : (plug x (gs ++ ⟨true, y, c, vy, kk false⟩ :: fs)).keys = (keysL fs ++ (kk false).keys) ++ ((vy, y) :: x.keys ++ keysR gs ++ keysR fs) := by
      rw [plug_append]
      show (plug (bn true y c vy (plug x gs) (kk false)) fs).keys = _
      rw [keys_all, keys_bn, hkx]
      simp
    cases cy with
    | true =>
      obtain ⟨q1, q2, q3, q4⟩ := (Rb_red ..).1 a5
      obtain ⟨p1, p2⟩ := Rb_plug q3 (RbC_swap (i' := y) (v' := vy) a6) (fun e => by rw [q1] at e; cases e)
      exact finish _ _ _ _ ⟨hz, huo, _, _, _, _, hout, .inl ⟨hyred, rfl⟩⟩ ((Z_plug ..).1 z6) p1 p2 k1 k2
    | false =>
      obtain ⟨n3, rfl, q3, q4⟩ := (Rb_black ..).1 a5
      obtain ⟨k', t', b', m1, m2, m3, m4, m5⟩ := fill_all _ z6 (RbF_of q3) (RbC_swap (i' := y) (v' := vy) a6)
      exact finish _ _ _ _ ⟨hz, huo, _, _, _, _, hout, .inr ⟨hyred, k', m1⟩⟩ m2 m3 m4 k1 (m5.trans k2)
end Tr
end Go.Proofs.YtpmknpdnhfnfcaaGreatDoor

namespace Go.Proofs.YtpmknpdnhfnfcaaGreatDoor
namespace Wd

theorem Mpos : 0 < M := by unfold M; omega

theorem mulH_comm (a b : Int) : mulH a b = mulH b a := by unfold mulH; rw [Int.mul_comm]
theorem mulL_comm (a b : Int) : mulL a b = mulL b a := by unfold mulL; rw [Int.mul_comm]

/-! ### WideBack -/
theorem back_add (a b r : Int) (ha : U a) (hb : U b) (hr : 0 ≤ r ∧ r < b) :
    addH (mulH a b) (mulL a b) r = (a * b + r) / M ∧ addL (mulL a b) r = (a * b + r) % M := by
  have hp := prod_bound a b ha hb
  have := hb.2
  exact add_small _ _ r (U_mulH a b ha hb) (U_mulL a b) (by unfold U; omega) (a * b) (mul_parts a b).symm (by omega)
theorem back_div (a b r : Int) (ha : U a) (hr : 0 ≤ r ∧ r < b) (X : Int) (hX : X = a * b + r) :
    divOk (X / M) b = true ∧ divQq (X / M) (X % M) b = a ∧ divRr (X / M) (X % M) b = r := by
  have hM := Mpos
  have hk : divOk (X / M) b = true := by
    have h1 : X / M < b := by
      refine Int.ediv_lt_of_lt_mul hM ?_
      have h2 : (a + 1) * b ≤ M * b := Int.mul_le_mul_of_nonneg_right (by have := ha.2; omega) (by omega)
      rw [Int.add_mul, Int.one_mul, Int.mul_comm M] at h2
      omega
    simp [divOk, h1]; omega
  have hXe : X / M * M + X % M = X := by rw [Int.mul_comm]; exact Int.mul_ediv_add_emod X M
  have hu := div_unique (n := X) (d := b) (q := a) (r := r) (by rw [hX, Int.mul_comm]) hr.1 hr.2
  refine ⟨hk, ?_, ?_⟩
  · unfold divQq; rw [hk, if_pos rfl]; unfold divQ; rw [hXe]; exact hu.1
  · unfold divRr; rw [hk, if_pos rfl]; unfold divR; rw [hXe]; exact hu.2

/-! ### WideTurns -/
theorem turns_add (a b one : Int) (ha : U a) (hb : U b) (h0 : 0 ≤ one) (h1 : one ≤ b) :
    IntKind.u64.wrap (addH (mulH a one) (mulL a one) (mulL a (b - one)) + mulH a (b - one)) = mulH a b ∧ addL (mulL a one) (mulL a (b - one)) = mulL a b := by
  have hM := Mpos
  have ho : U one := ⟨h0, by have := hb.2; omega⟩
  have hbo : U (b - one) := ⟨by omega, by have := hb.2; omega⟩
  have hp := prod_bound a one ha ho
  have hL := U_mulL a (b - one)
  obtain ⟨e1, e2⟩ := add_small _ _ (mulL a (b - one)) (U_mulH a one ha ho) (U_mulL a one) hL (a * one) (mul_parts a one).symm (by have := hL.2; omega)
  have e3 := mul_parts a (b - one)
  have e4 : a * b = a * one + a * (b - one) := by rw [← Int.mul_add]; congr 1; omega
  have e5 : a * b = (a * one + mulL a (b - one)) + mulH a (b - one) * M := by omega
  have hU := U_mulH a b ha hb
  have e6 : (a * one + mulL a (b - one)) / M + mulH a (b - one) = mulH a b := by
    unfold mulH at *
    rw [e5, Int.add_mul_ediv_right _ _ (by omega)]
  have e7 : (a * one + mulL a (b - one)) % M = mulL a b := by
    have : mulL a b = a * b % M := rfl
    rw [this, e5, Int.add_mul_emod_self_right]
  rw [e1, e2, e6, e7]
  exact ⟨wrap_U hU, rfl⟩

/-! ### WideBounds -/
theorem bounds_no (h l d : Int) (hk : divOk h d = false) : divQq h l d = 0 ∧ divRr h l d = 0 ∧ (d = 0 ∨ d ≤ h) := by
  unfold divQq divRr
  rw [hk]
  simp [divOk] at hk
  refine ⟨rfl, rfl, ?_⟩
  by_cases h0 : d = 0
  · exact .inl h0
  · exact .inr (hk h0)
theorem bounds_yes (h l d : Int) (hh : U h) (hl : U l) (hd : U d) (hk : divOk h d = true) : divRr h l d < d ∧ addH (mulH (divQq h l d) d) (mulL (divQq h l d) d) (divRr h l d) = h ∧ addL (mulL (divQq h l d) d) (divRr h l d) = l := by
  have hM := Mpos
  have hq := U_divQq h l d hh hl
  have hd0 : 0 < d := by simp [divOk] at hk; have := hh.1; omega
  have eq : divQq h l d = (h * M + l) / d := by unfold divQq; rw [hk]; rfl
  have er : divRr h l d = (h * M + l) % d := by unfold divRr; rw [hk]; rfl
  have hr0 : 0 ≤ divRr h l d := by rw [er]; exact Int.emod_nonneg _ (by omega)
  have hr1 : divRr h l d < d := by rw [er]; exact Int.emod_lt_of_pos _ hd0
  have hX : divQq h l d * d + divRr h l d = h * M + l := by rw [eq, er, Int.mul_comm]; exact Int.mul_ediv_add_emod _ _
  obtain ⟨e1, e2⟩ := back_add (divQq h l d) d (divRr h l d) hq hd ⟨hr0, hr1⟩
  rw [hX] at e1 e2
  have hu := div_unique (n := h * M + l) (d := M) (q := h) (r := l) (by rw [Int.mul_comm]) hl.1 hl.2
  exact ⟨hr1, e1.trans hu.1, e2.trans hu.2⟩

/-! ### WideOnes -/
theorem mulH_one (a : Int) (ha : U a) : mulH a 1 = 0 := by unfold mulH; rw [Int.mul_one]; exact Int.ediv_eq_zero_of_lt ha.1 ha.2
theorem mulL_one (a : Int) (ha : U a) : mulL a 1 = a := by unfold mulL; rw [Int.mul_one]; exact Int.emod_eq_of_lt ha.1 ha.2
theorem mulH_nought (a : Int) : mulH 0 a = 0 := by unfold mulH; rw [Int.zero_mul]; simp
theorem mulL_nought (a : Int) : mulL 0 a = 0 := by unfold mulL; rw [Int.zero_mul]; simp
theorem ones_div (a b : Int) (ha : U a) : (a = 0 → divOk a 1 = true ∧ divQq a b 1 = b ∧ divRr a b 1 = 0) ∧ (a ≠ 0 → divOk a 1 = false) := by
  constructor
  · rintro rfl
    have hk : divOk 0 1 = true := by decide
    refine ⟨hk, ?_, ?_⟩
    · unfold divQq; rw [hk]; show divQ 0 b 1 = b; unfold divQ; simp
    · unfold divRr; rw [hk]; show divR 0 b 1 = 0; unfold divR; simp
  · intro h; have := ha.1; simp [divOk]; omega

/-! ### Scale -/
/-- 2^64 - 1. -/
def top : Int := 18446744073709551615
theorem top_eq : top = M - 1 := by unfold top M; omega
theorem scl_eq (a b d : Int) (hd : U d) : scl a b d = if d = 0 then top else if a * b / d < M then a * b / d else top := by
  have hM := Mpos
  unfold scl
  by_cases h0 : d = 0
  · have : divOk (mulH a b) d = false := by simp [divOk, h0]
    rw [this, if_pos h0]; rfl
  · have hp : 0 < d := by have := hd.1; omega
    rw [if_neg h0]
    have hiff : mulH a b < d ↔ a * b / d < M := by
      unfold mulH
      rw [Int.ediv_lt_iff_lt_mul hM, Int.ediv_lt_iff_lt_mul hp, Int.mul_comm d M]
    by_cases h1 : a * b / d < M
    · have hk : divOk (mulH a b) d = true := by simp [divOk, h0, hiff.2 h1]
      rw [hk, if_pos h1, if_pos rfl]
      unfold divQ
      rw [mul_parts]
    · have hk : divOk (mulH a b) d = false := by simp [divOk, h0]; have := mt hiff.1 h1; omega
      rw [hk, if_neg h1]; rfl
theorem scl_le_top (a b d : Int) (hd : U d) : scl a b d ≤ top := by
  rw [scl_eq a b d hd]
  have := top_eq
  split
  · omega
  · split <;> omega
theorem scl_self (a c : Int) (ha : U a) (hc : U c) (h : 0 < c) : scl a c c = a := by
  rw [scl_eq a c c hc, if_neg (by omega), Int.mul_ediv_cancel _ (by omega), if_pos ha.2]
theorem scl_comm (a b d : Int) : scl a b d = scl b a d := by unfold scl; rw [mulH_comm, mulL_comm]
theorem scl_zero (a b : Int) : scl a b 0 = top := by unfold scl; simp [divOk]; rfl
theorem scl_mono (a a' b d : Int) (hb : U b) (hd : U d) (h : a ≤ a') : scl a b d ≤ scl a' b d := by
  have ht := top_eq
  rw [scl_eq a b d hd, scl_eq a' b d hd]
  by_cases h0 : d = 0
  · rw [if_pos h0, if_pos h0]; omega
  · rw [if_neg h0, if_neg h0]
    have hp : 0 < d := by have := hd.1; omega
    have := Int.ediv_le_ediv hp (Int.mul_le_mul_of_nonneg_right h hb.1)
    generalize a * b / d = x at *
    generalize a' * b / d = y at *
    split <;> split <;> omega
theorem scl_anti (a b d d' : Int) (ha : U a) (hb : U b) (hd : U d) (hd' : U d') (h : d ≤ d') : scl a b d' ≤ scl a b d := by
  have ht := top_eq
  by_cases h0 : d = 0
  · rw [h0, scl_zero]; exact scl_le_top a b d' hd'
  · rw [scl_eq a b d hd, scl_eq a b d' hd', if_neg h0, if_neg (by have := hd.1; omega)]
    have hp : 0 < d := by have := hd.1; omega
    have hn := Int.mul_nonneg ha.1 hb.1
    have : a * b / d' ≤ a * b / d := by
      refine (Int.le_ediv_iff_mul_le hp).2 ?_
      have h1 : a * b / d' * d ≤ a * b / d' * d' := Int.mul_le_mul_of_nonneg_left h (Int.ediv_nonneg hn (by omega))
      exact Int.le_trans h1 (Int.ediv_mul_le _ (by omega))
    generalize a * b / d = x at *
    generalize a * b / d' = y at *
    split <;> split <;> omega
theorem U_scl (a b d : Int) (ha : U a) (hb : U b) (hd : U d) : U (scl a b d) := by
  refine ⟨?_, by have := scl_le_top a b d hd; have := top_eq; omega⟩
  rw [scl_eq a b d hd]
  have hn := Int.mul_nonneg ha.1 hb.1
  have : 0 ≤ a * b / d := Int.ediv_nonneg hn hd.1
  have : (0 : Int) ≤ top := by unfold top; omega
  split
  · omega
  · split <;> omega

/-! ### bits of two numbers -/
theorem and_le (a b : Int) (ha : U a) (hb : U b) : 0 ≤ bits .and .u64 a b ∧ bits .and .u64 a b ≤ a := by
  obtain ⟨m, rfl⟩ := Int.eq_ofNat_of_zero_le ha.1
  obtain ⟨n, rfl⟩ := Int.eq_ofNat_of_zero_le hb.1
  have hm : m < 18446744073709551616 := by have := ha.2; unfold M at this; omega
  have hn : n < 18446744073709551616 := by have := hb.2; unfold M at this; omega
  rw [bits_and_u64_nat m n hm hn]
  have : m &&& n ≤ m := Nat.and_le_left
  omega
theorem or_ge (a b : Int) (ha : U a) (hb : U b) : a ≤ bits .or .u64 a b ∧ b ≤ bits .or .u64 a b ∧ U (bits .or .u64 a b) := by
  obtain ⟨m, rfl⟩ := Int.eq_ofNat_of_zero_le ha.1
  obtain ⟨n, rfl⟩ := Int.eq_ofNat_of_zero_le hb.1
  have hm : m < 18446744073709551616 := by have := ha.2; unfold M at this; omega
  have hn : n < 18446744073709551616 := by have := hb.2; unfold M at this; omega
  rw [bits_or_u64_nat m n hm hn]
  have h1 : m ≤ m ||| n := Nat.left_le_or
  have h2 : n ≤ m ||| n := Nat.right_le_or
  have h3 : m ||| n < 2 ^ 64 := Nat.or_lt_two_pow (by omega) (by omega)
  unfold U M
  omega

end Wd
end Go.Proofs.YtpmknpdnhfnfcaaGreatDoor

namespace Go.Proofs.YtpmknpdnhfnfcaaGreatDoor.Wg
open Wd

def tab : List Int := [88761, 71755, 56483, 46273, 36291, 29154, 23254, 18705, 14949, 11916, 9548, 7620, 6100, 4904, 3906, 3121, 2501, 1991, 1586, 1277, 1024, 820, 655, 526, 423, 335, 272, 215, 172, 137, 110, 87, 70, 56, 45, 36, 29, 23, 18, 15]
def isNice (n : Int) : Prop := -20 ≤ n ∧ n ≤ 19
instance (n : Int) : Decidable (isNice n) := inferInstanceAs (Decidable (_ ∧ _))
def wt (n : Int) : Int := tab.getD (n + 20).toNat 0
def ofW (n : Int) : Int := if isNice n then wt n else 0
def ofE (n : Int) : Int := if isNice n then 0 else 1

theorem tab_len : tab.length = 40 := rfl
theorem tab_each : ∀ k : Fin 40, 15 ≤ tab.getD k.val 0 ∧ tab.getD k.val 0 ≤ 88761 := by decide +kernel
theorem tab_falls : ∀ k : Fin 39, 12 * tab.getD (k.val + 1) 0 ≤ 10 * tab.getD k.val 0 ∧ 100 * tab.getD k.val 0 ≤ 128 * tab.getD (k.val + 1) 0 ∧ 15 ≤ tab.getD (k.val + 1) 0 := by decide +kernel
theorem tab_less (k : Nat) (h : k < 39) : tab.getD (k + 1) 0 < tab.getD k 0 := by
  have := tab_falls ⟨k, h⟩
  simp only at this
  omega
theorem tab_anti : ∀ (j k : Nat), j < k → k < 40 → tab.getD k 0 < tab.getD j 0
  | j, 0, h, _ => absurd h (Nat.not_lt_zero _)
  | j, k + 1, h, hk => by
    have h1 := tab_less k (by omega)
    by_cases e : j = k
    · subst e; exact h1
    · have := tab_anti j k (by omega) (by omega); omega

theorem wt_bound {n : Int} (h : isNice n) : 15 ≤ wt n ∧ wt n ≤ 88761 := by
  unfold isNice at h
  exact tab_each ⟨(n + 20).toNat, by omega⟩
theorem wt_at (k : Nat) : wt ((k : Int) - 20) = tab.getD k 0 := by
  unfold wt
  congr 1
  omega

def tab39 : List Int := [88761, 71755, 56483, 46273, 36291, 29154, 23254, 18705, 14949, 11916, 9548, 7620, 6100, 4904, 3906, 3121, 2501, 1991, 1586, 1277, 1024, 820, 655, 526, 423, 335, 272, 215, 172, 137, 110, 87, 70, 56, 45, 36, 29, 23, 18]
theorem tab39_len : tab39.length = 39 := rfl
theorem tab39_at : ∀ k : Fin 39, tab39.getD k.val 0 = tab.getD k.val 0 := by decide +kernel
/-- the first of the first 39 that is not above w; 39, if there is none. -/
def nix (w : Int) : Nat := tab39.findIdx (fun t => decide (t ≤ w))
def niceOf (w : Int) : Int := (nix w : Int) - 20
theorem nix_le (w : Int) : nix w ≤ 39 := List.findIdx_le_length (xs := tab39) (p := fun t => decide (t ≤ w))
theorem nix_before (w : Int) (j : Nat) (h : j < nix w) : w < tab.getD j 0 := by
  have hj : j < 39 := Nat.lt_of_lt_of_le h (nix_le w)
  have := List.not_of_lt_findIdx (xs := tab39) (p := fun t => decide (t ≤ w)) h
  rw [← tab39_at ⟨j, hj⟩]
  simp only [decide_eq_false_iff_not, Int.not_le] at this
  have hj' : j < tab39.length := hj
  simpa [List.getD, hj'] using this
theorem nix_at (w : Int) (h : nix w < 39) : tab.getD (nix w) 0 ≤ w := by
  have hl : tab39.findIdx (fun t => decide (t ≤ w)) < tab39.length := h
  have := List.findIdx_getElem (xs := tab39) (p := fun t => decide (t ≤ w)) (w := hl)
  rw [← tab39_at ⟨nix w, h⟩]
  simp only [decide_eq_true_eq] at this
  have hj' : nix w < tab39.length := h
  show tab39.getD (nix w) 0 ≤ w
  rw [List.getD_eq_getElem?_getD, List.getElem?_eq_getElem hj', Option.getD_some]
  exact this
theorem nix_eq (w : Int) (k : Nat) (hk : k ≤ 39) (h : ∀ j, j < k → w < tab.getD j 0) (h2 : k < 39 → tab.getD k 0 ≤ w) : nix w = k := by
  rcases Nat.lt_trichotomy (nix w) k with a | a | a
  · have := nix_at w (by omega); have := h _ a; omega
  · exact a
  · have := nix_before w k a; have := h2 (by have := nix_le w; omega); omega

def step48 : Int := 281474976710656
def dlt (d w : Int) : Int := min (scl 1024 d w) step48

theorem U_nat (n : Int) (h0 : 0 ≤ n) (h1 : n ≤ 9223372036854775807) : U n := by unfold U M; omega
theorem U_1024 : U 1024 := by unfold U M; omega

/-- the sum of a list's weights, and its error. -/
def sumW : List Int → Int
  | [] => 0
  | n :: l => wt n + sumW l
def allNice (l : List Int) : Prop := ∀ n ∈ l, isNice n
instance (l : List Int) : Decidable (allNice l) := inferInstanceAs (Decidable (∀ n ∈ l, isNice n))
theorem sumW_snoc (l : List Int) (n : Int) : sumW (l ++ [n]) = sumW l + wt n := by
  induction l with
  | nil => simp [sumW]
  | cons a l ih => simp only [List.cons_append, sumW, ih]; omega
theorem sumW_append (l m : List Int) : sumW (l ++ m) = sumW l + sumW m := by
  induction l with
  | nil => simp [sumW]
  | cons a l ih => simp only [List.cons_append, sumW, ih]; omega
theorem sumW_reverse (l : List Int) : sumW l.reverse = sumW l := by
  induction l with
  | nil => rfl
  | cons a l ih => simp only [List.reverse_cons, sumW_append, sumW, ih]; omega
theorem sumW_bound (l : List Int) (h : allNice l) : 15 * (l.length : Int) ≤ sumW l ∧ sumW l ≤ 88761 * (l.length : Int) := by
  induction l with
  | nil => simp [sumW]
  | cons a l ih =>
    have h1 := wt_bound (h a (by simp))
    have h2 := ih (fun n hn => h n (by simp [hn]))
    simp only [sumW, List.length_cons]
    omega
def sumR0 (l : List Int) : Int := if allNice l then sumW l else 0
def sumE0 (l : List Int) : Int := if allNice l then 0 else 1
def sumE (l : List Int) : Int := if 64 < l.length then 2 else sumE0 l
def sumR (l : List Int) : Int := if 64 < l.length then 0 else sumR0 l

def shE (d n : Int) (l : List Int) : Int := if d < 0 ∨ 1099511627776 < d ∨ ¬ isNice n then 1 else if sumE l ≠ 0 then sumE l else if l = [] then 1 else 0
def shR (d n : Int) (l : List Int) : Int := if shE d n l = 0 then d * wt n / sumW l else 0

theorem share_small (d n : Int) (l : List Int) (h : shE d n l = 0) : 0 ≤ d ∧ d ≤ 1099511627776 ∧ isNice n ∧ l.length ≤ 64 ∧ allNice l ∧ l ≠ [] := by
  unfold shE at h
  by_cases a : d < 0 ∨ 1099511627776 < d ∨ ¬ isNice n
  · rw [if_pos a] at h; omega
  · rw [if_neg a] at h
    have hn : isNice n := Classical.byContradiction fun x => a (.inr (.inr x))
    by_cases b : sumE l ≠ 0
    · rw [if_pos b] at h; exact absurd h b
    · rw [if_neg b] at h
      have b' : sumE l = 0 := Classical.byContradiction b
      unfold sumE sumE0 at b'
      by_cases c : 64 < l.length
      · rw [if_pos c] at b'; omega
      · rw [if_neg c] at b'
        by_cases e : allNice l
        · by_cases f : l = []
          · rw [if_pos f] at h; omega
          · exact ⟨by omega, by omega, hn, by omega, e, f⟩
        · rw [if_neg e] at b'; omega

/-- what Share reckons by layer 1. -/
theorem scl_share (d n : Int) (l : List Int) (h : shE d n l = 0) : scl d (wt n) (sumW l) = d * wt n / sumW l ∧ 0 ≤ d * wt n / sumW l ∧ d * wt n / sumW l ≤ 97594750000000000 ∧ d * wt n ≤ 97594750000000000 ∧ 0 ≤ d * wt n := by
  obtain ⟨h0, h1, hn, hl, ha, hne⟩ := share_small d n l h
  have hw := wt_bound hn
  have hs := sumW_bound l ha
  have hp : 0 < l.length := List.length_pos_iff.2 hne
  have hm : 0 ≤ d * wt n := Int.mul_nonneg h0 (by omega)
  have hm2 : d * wt n ≤ 1099511627776 * 88761 := Int.mul_le_mul h1 hw.2 (by omega) (by omega)
  have hd : d * wt n / sumW l ≤ d * wt n := Int.ediv_le_self _ hm
  have hd0 : 0 ≤ d * wt n / sumW l := Int.ediv_nonneg hm (by omega)
  have hU : U (sumW l) := by unfold U M; omega
  refine ⟨?_, hd0, by omega, by omega, hm⟩
  rw [scl_eq _ _ _ hU, if_neg (by omega), if_pos (by unfold M; omega)]

end Go.Proofs.YtpmknpdnhfnfcaaGreatDoor.Wg

namespace Go.Proofs.YtpmknpdnhfnfcaaGreatDoor
namespace Qu
open Wd Tn Ky Tr Wg

/-- A queue: its tree, Cur, V, Min, Load, Weights. -/
structure Q where
  t : T
  cur : Int
  v : Int
  mn : Int
  load : Int
  ws : List Int
/-- The queue that is told beside an error. -/
def qE : Q := ⟨⟨0, []⟩, 0, 0, 0, 0, []⟩
/-- Is a task here? -/
def Q.here (q : Q) (i : Int) : Bool := decide (i = q.cur) || (q.t.nd i).inn
/-- A task's weight. -/
def Q.w (q : Q) (i : Int) : Int := q.ws.getD i.toNat 0
/-- The key of who runs. -/
def Q.run (q : Q) : List K := if q.cur = -1 then [] else [(q.v, q.cur)]
def wOkN (w : Int) : Prop := 1 ≤ w ∧ w ≤ 88761
instance (w : Int) : Decidable (wOkN w) := by unfold wOkN; infer_instance
def curOk (q : Q) : Prop := (q.cur = -1 ∧ q.v = 0) ∨ (q.t.has q.cur ∧ (q.t.nd q.cur).inn = false)
instance (q : Q) : Decidable (curOk q) := by unfold curOk; infer_instance
/-- The weight of a task that is here is one that may be; that of another one is 0. -/
def wAt (q : Q) (i : Nat) : Prop := (q.here i = true ∧ wOkN (q.ws.getD i 0)) ∨ (q.here i = false ∧ q.ws.getD i 0 = 0)
instance (q : Q) (i : Nat) : Decidable (wAt q i) := by unfold wAt; infer_instance
def wsOk (q : Q) : Prop := q.ws.length = q.t.ns.length ∧ (∀ i : Nat, i < q.ws.length → wAt q i) ∧ q.ws.sum = q.load
instance (q : Q) : Decidable (wsOk q) := by unfold wsOk; infer_instance
def lagOk (m : Int) (k : K) : Prop := -mx ≤ lagN k.1 m ∧ lagN k.1 m ≤ mx
instance (m : Int) (k : K) : Decidable (lagOk m k) := by unfold lagOk; infer_instance
/-- A queue whose tree is b is right. -/
def RightA (q : Q) (b : B) : Prop := RightB q.mn b ∧ curOk q ∧ wsOk q ∧ ∀ k ∈ b.keys ++ q.run, lagOk q.mn k
instance (q : Q) (b : B) : Decidable (RightA q b) := by unfold RightA; infer_instance
def RightQ (q : Q) : Prop := ∃ b, Whole q.t b ∧ RightA q b
theorem rightQ_iff {q : Q} {b : B} (h : Whole q.t b) : RightQ q ↔ RightA q b := ⟨fun ⟨b', h', hr⟩ => by rw [h.unique h']; exact hr, fun hr => ⟨b, h, hr⟩⟩

/-- Another weight of a task. -/
def Q.weigh (q : Q) (id w : Int) : Q := { q with load := q.load + (w - q.w id), ws := q.ws.set id.toNat w }
/-- Nobody runs. -/
def Q.stop (q : Q) : Q := { q with cur := -1, v := 0 }
/-- Min brought up, by the keys of all that are here. -/
def upM (m : Int) (l : List K) : Int := if l = [] then m else lat m (firstK m l).1

/-- The first one of the tree runs: by x. -/
def Q.take (q : Q) (t' : T) (x : K) (l' : List K) : Q := { q with t := t', cur := x.2, v := x.1, mn := upM q.mn (l' ++ [x]) }
/-- Who runs has run on for so much virtual time. -/
def Q.tick (q : Q) (l : List K) (s : Int) : Q := { q with v := stepN q.v q.mn s, mn := upM q.mn (l ++ [(stepN q.v q.mn s, q.cur)]) }
/-- What Keys tells. -/
def IsKeys (q : Q) (l : List K) : Prop := (∃ b, Whole q.t b ∧ RightA q b ∧ l = srtK q.mn (b.keys ++ q.run)) ∨ (¬ RightQ q ∧ l = [])
end Qu
end Go.Proofs.YtpmknpdnhfnfcaaGreatDoor
