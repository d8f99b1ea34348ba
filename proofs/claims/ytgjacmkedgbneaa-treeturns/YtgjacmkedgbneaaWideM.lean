/-
  Plain facts on numbers of 64 and of 128 bits (nothing of the program is imported here): what Mul, Add, Div, Scale of layer 1 reckon, step by step, and what that comes to.
-/
import Derived.Laws.Bits64b
import Derived.Laws.BitsLemmas
namespace Go.Proofs.Ytgjacmkedgbneaa
namespace Wd

/-- 2^64, under a name of its own. -/
def M : Int := 18446744073709551616
/-- n is a number of 64 bits. -/
def U (n : Int) : Prop := 0 ≤ n ∧ n < M

theorem U_zero : U 0 := by unfold U M; omega
theorem U_one : U 1 := by unfold U M; omega
theorem wrapM (n : Int) : IntKind.u64.wrap n = n % M := IntKind.wrap_u64 n
theorem U_wrap (n : Int) : U (IntKind.u64.wrap n) := by rw [wrapM]; unfold U M; omega
theorem wrap_U {n : Int} (h : U n) : IntKind.u64.wrap n = n := by rw [wrapM]; unfold U M at *; omega

/-! ### the steps, as the Go text takes them -/
def addL (b c : Int) : Int := IntKind.u64.wrap (b + c)
def addH (a b c : Int) : Int := if IntKind.u64.wrap (b + c) < b then IntKind.u64.wrap (a + 1) else a
def dblH (h l : Int) : Int := bits .or .u64 (IntKind.u64.wrap (h * 2)) (l / 9223372036854775808)
def dblL (l : Int) : Int := IntKind.u64.wrap (l * 2)

theorem U_addL (b c : Int) : U (addL b c) := U_wrap _
theorem U_addH (a b c : Int) (h : U a) : U (addH a b c) := by unfold addH; split; exact U_wrap _; exact h
theorem U_dblL (l : Int) : U (dblL l) := U_wrap _

/-- 'Add', as a number. -/
theorem add_spec (a b c : Int) (ha : U a) (hb : U b) (hc : U c) : addH a b c * M + addL b c = (a * M + b + c) % (M * M) := by
  unfold addH addL; simp only [wrapM]
  have e : (a * M + b + c) % (M * M) = (a * M + b + c) % 340282366920938463463374607431768211456 := by unfold M; rfl
  rw [e]
  unfold U M at *
  split <;> omega

/-- .. with no wrap. -/
theorem add_small (a b c : Int) (ha : U a) (hb : U b) (hc : U c) (X : Int) (hX : X = a * M + b) (hs : X + c < M * M) : addH a b c = (X + c) / M ∧ addL b c = (X + c) % M := by
  have e : M * M = 340282366920938463463374607431768211456 := by unfold M; rfl
  rw [e] at hs
  unfold addH addL; simp only [wrapM]
  unfold U M at *
  subst hX
  split <;> omega

theorem or_even (x y : Int) (hx : U x) (he : x % 2 = 0) (hy : 0 ≤ y ∧ y < 2) : bits .or .u64 x y = x + y := by
  refine bits_join .u64 64 (by decide) (fun n h0 h1 => ?_) 1 x y hx.1 (by simpa using he) ?_ hy.1 ?_ ?_
  · rw [IntKind.wrap_u64]; omega
  · have := hx.2; unfold M at this; omega
  · simpa using hy.2
  · omega
theorem and_one (x : Int) (hx : U x) : bits .and .u64 x 1 = x % 2 := by
  have := bits_mask .u64 64 (by decide) (fun n h0 h1 => by rw [IntKind.wrap_u64]; omega) 1 (by omega) x hx.1 (by have := hx.2; unfold M at this; omega)
  simpa using this

/-- 'double', as a number, with no wrap. -/
theorem dbl_small (h l : Int) (hh : U h) (hl : U l) (X : Int) (hX : X = h * M + l) (hs : 2 * X < M * M) : dblH h l = 2 * X / M ∧ dblL l = 2 * X % M := by
  have e : M * M = 340282366920938463463374607431768211456 := by unfold M; rfl
  rw [e] at hs
  have hb : 0 ≤ l / 9223372036854775808 ∧ l / 9223372036854775808 < 2 := by unfold U M at *; omega
  have hw : IntKind.u64.wrap (h * 2) = h * 2 := by rw [wrapM]; unfold U M at *; omega
  unfold dblH dblL
  rw [or_even _ _ (U_wrap _) (by rw [hw]; omega) hb, hw, wrapM]
  unfold U M at *
  subst hX
  omega

/-! ### bits, the highest one first -/
def b2i (b : Bool) : Int := if b then 1 else 0
theorem b2i_bound (b : Bool) : 0 ≤ b2i b ∧ b2i b ≤ 1 := by cases b <;> simp [b2i]
/-- bit i of n, from above. -/
def bitAt (n : Int) (i : Nat) : Bool := n / 2 ^ (63 - i) % 2 == 1
def bitsUpto (n : Int) (k : Nat) : List Bool := (List.range k).map (bitAt n)
theorem bitsUpto_zero (n : Int) : bitsUpto n 0 = [] := rfl
theorem bitsUpto_succ (n : Int) (k : Nat) : bitsUpto n (k + 1) = bitsUpto n k ++ [bitAt n k] := by simp [bitsUpto, List.range_succ]
theorem bitsUpto_length (n : Int) (k : Nat) : (bitsUpto n k).length = k := by simp [bitsUpto]
theorem b2i_bitAt (n : Int) (i : Nat) : b2i (bitAt n i) = n / 2 ^ (63 - i) % 2 := by
  unfold b2i bitAt
  by_cases h : n / 2 ^ (63 - i) % 2 = 1
  · simp [h]
  · have : n / 2 ^ (63 - i) % 2 = 0 := by omega
    simp [this]

/-- the number of a row of bits. -/
def val (l : List Bool) : Int := l.foldl (fun v b => 2 * v + b2i b) 0
theorem val_nil : val [] = 0 := rfl
theorem val_snoc (l : List Bool) (b : Bool) : val (l ++ [b]) = 2 * val l + b2i b := by simp [val]
theorem val_from (l : List Bool) : ∀ v : Int, 0 ≤ v → 0 ≤ l.foldl (fun v b => 2 * v + b2i b) v ∧ l.foldl (fun v b => 2 * v + b2i b) v + 1 ≤ (v + 1) * 2 ^ l.length := by
  induction l with
  | nil => intro v hv; simp; omega
  | cons b l ih =>
    intro v hv
    have hb := b2i_bound b
    have h := ih (2 * v + b2i b) (by omega)
    have e : (v + 1) * 2 ^ (b :: l).length = (2 * v + 2) * 2 ^ l.length := by
      rw [List.length_cons, Int.pow_succ, Int.mul_comm (2 ^ l.length) 2, ← Int.mul_assoc]; congr 1; omega
    rw [e, List.foldl_cons]
    refine ⟨h.1, Int.le_trans h.2 (Int.mul_le_mul_of_nonneg_right (by omega) (Int.le_of_lt (Int.pow_pos (by omega))))⟩
theorem val_bound (l : List Bool) : 0 ≤ val l ∧ val l < 2 ^ l.length := by
  have := val_from l 0 (by omega)
  unfold val; omega

/-- what has come of n behind k bits. -/
theorem val_upto (n : Int) (h : U n) (k : Nat) (hk : k ≤ 64) : val (bitsUpto n k) = n / 2 ^ (64 - k) := by
  induction k with
  | zero => rw [bitsUpto_zero, val_nil]; unfold U M at h; simp; omega
  | succ k ih =>
    rw [bitsUpto_succ, val_snoc, ih (by omega), b2i_bitAt]
    have e : (2 : Int) ^ (64 - k) = 2 ^ (63 - k) * 2 := by rw [← Int.pow_succ]; congr 1; omega
    have e2 : 64 - (k + 1) = 63 - k := by omega
    rw [e, e2, ← Int.ediv_ediv_of_nonneg (Int.le_of_lt (Int.pow_pos (by omega)))]
    omega
theorem val_all (n : Int) (h : U n) : val (bitsUpto n 64) = n := by rw [val_upto n h 64 (by omega)]; simp

theorem pow_le {i j : Nat} (h : i ≤ j) : (2 : Int) ^ i ≤ 2 ^ j := by
  have := Nat.pow_le_pow_right (n := 2) (by omega) h
  exact_mod_cast this

/-! ### 'Mul' -/
def mulH (a b : Int) : Int := a * b / M
def mulL (a b : Int) : Int := a * b % M
/-- one round of Mul. -/
def mulStep (a : Int) (s : Int × Int) (b : Bool) : Int × Int :=
  if b then (addH (dblH s.1 s.2) (dblL s.2) a, addL (dblL s.2) a) else (dblH s.1 s.2, dblL s.2)
def mulSt (a : Int) (l : List Bool) : Int × Int := l.foldl (mulStep a) (0, 0)
theorem mulSt_nil (a : Int) : mulSt a [] = (0, 0) := rfl
theorem mulSt_snoc (a : Int) (l : List Bool) (b : Bool) : mulSt a (l ++ [b]) = mulStep a (mulSt a l) b := by simp [mulSt]

theorem prod_bound (a v : Int) (ha : U a) (hv : U v) : 0 ≤ a * v ∧ a * v + M + M ≤ M * M + 1 := by
  have h1 := Int.mul_nonneg ha.1 hv.1
  have h2 : a * v ≤ (M - 1) * (M - 1) := Int.mul_le_mul (by have := ha.2; omega) (by have := hv.2; omega) hv.1 (by have := ha.1; have := ha.2; omega)
  have e : (M - 1) * (M - 1) = M * M - M - M + 1 := by unfold M; rfl
  omega
theorem U_mulL (a b : Int) : U (mulL a b) := by unfold mulL U M; omega
theorem U_mulH (a b : Int) (ha : U a) (hb : U b) : U (mulH a b) := by
  have h := prod_bound a b ha hb
  have e : M * M = 340282366920938463463374607431768211456 := by unfold M; rfl
  rw [e] at h
  unfold mulH
  generalize a * b = X at *
  unfold U M at *
  omega

theorem mulSt_eq (a : Int) (ha : U a) : ∀ (k : Nat) (l : List Bool), l.length = k → k ≤ 64 → mulSt a l = (a * val l / M, a * val l % M) := by
  intro k
  induction k with
  | zero => intro l hl _; obtain rfl := List.length_eq_zero_iff.1 hl; simp [mulSt, val]
  | succ k ih =>
    intro l hl hk
    obtain ⟨l', b, rfl⟩ : ∃ l' b, l = l' ++ [b] := ⟨l.dropLast, l.getLast (by intro e; simp [e] at hl), (List.dropLast_concat_getLast _).symm⟩
    have hl' : l'.length = k := by simpa using hl
    have hv := val_bound l'
    have hvs := val_bound (l' ++ [b])
    have hp : (2 : Int) ^ (l' ++ [b]).length ≤ 2 ^ 64 := pow_le (by simp; omega)
    have hU : U (val (l' ++ [b])) := ⟨hvs.1, by have : (2 : Int) ^ 64 = M := rfl; omega⟩
    have hU' : U (val l') := by rw [val_snoc] at hU; have := b2i_bound b; unfold U at *; omega
    have pb := prod_bound a _ ha hU
    have pb' := prod_bound a _ ha hU'
    rw [mulSt_snoc, ih l' hl' (by omega)]
    rw [val_snoc] at pb ⊢
    have hx : a * (2 * val l' + b2i b) = 2 * (a * val l') + a * b2i b := by rw [Int.mul_add, ← Int.mul_assoc, Int.mul_comm a 2, Int.mul_assoc]
    rw [hx] at pb ⊢
    have e : M * M = 340282366920938463463374607431768211456 := by unfold M; rfl
    have hXU : U (a * val l' / M) ∧ U (a * val l' % M) := ⟨U_mulH a (val l') ha hU', U_mulL a (val l')⟩
    have hXe : a * val l' = a * val l' / M * M + a * val l' % M := by rw [Int.mul_comm _ M]; exact (Int.mul_ediv_add_emod _ _).symm
    generalize a * val l' = X at *
    have habound : 0 ≤ a * b2i b := Int.mul_nonneg ha.1 (b2i_bound b).1
    have hMpos : 0 < M := by unfold M; omega
    obtain ⟨d1, d2⟩ := dbl_small (X / M) (X % M) hXU.1 hXU.2 X hXe (by omega)
    unfold mulStep
    rw [d1, d2]
    cases b with
    | false => simp [b2i]
    | true =>
      have hb1 : a * b2i true = a := by simp [b2i]
      rw [hb1] at pb ⊢
      have hDU : U (2 * X / M) ∧ U (2 * X % M) := by
        have := ha.1
        constructor
        · unfold U; exact ⟨Int.ediv_nonneg (by omega) (by omega), Int.ediv_lt_of_lt_mul hMpos (by omega)⟩
        · exact ⟨Int.emod_nonneg _ (by omega), Int.emod_lt_of_pos _ hMpos⟩
      obtain ⟨s1, s2⟩ := add_small (2 * X / M) (2 * X % M) a hDU.1 hDU.2 ha (2 * X) (by rw [Int.mul_comm _ M]; exact (Int.mul_ediv_add_emod _ _).symm) (by omega)
      simp [s1, s2]
theorem mulSt_all (a b : Int) (ha : U a) (hb : U b) : mulSt a (bitsUpto b 64) = (mulH a b, mulL a b) := by
  rw [mulSt_eq a ha 64 _ (bitsUpto_length b 64) (by omega), val_all b hb]; rfl

/-! ### 'Div' -/
def divQ (h l by' : Int) : Int := (h * M + l) / by'
def divR (h l by' : Int) : Int := (h * M + l) % by'
/-- the remainder's next value, ahead of the test. -/
def divR1 (r : Int) (b : Bool) : Int := bits .or .u64 (IntKind.u64.wrap (r * 2)) (b2i b)
def divQ1 (q : Int) : Int := IntKind.u64.wrap (q * 2)
def divQ2 (q : Int) : Int := bits .or .u64 (IntKind.u64.wrap (q * 2)) 1
def divR2 (r by' : Int) (b : Bool) : Int := IntKind.u64.wrap (divR1 r b - by')
/-- one round of Div: what is left over, and how often. -/
def divStep (by' : Int) (s : Int × Int) (b : Bool) : Int × Int :=
  if s.1 / 9223372036854775808 = 1 ∨ by' ≤ divR1 s.1 b then (divR2 s.1 by' b, divQ2 s.2) else (divR1 s.1 b, divQ1 s.2)
def divSt (h by' : Int) (l : List Bool) : Int × Int := l.foldl (divStep by') (h, 0)
theorem divSt_nil (h by' : Int) : divSt h by' [] = (h, 0) := rfl
theorem divSt_snoc (h by' : Int) (l : List Bool) (b : Bool) : divSt h by' (l ++ [b]) = divStep by' (divSt h by' l) b := by simp [divSt]

theorem divR1_eq (r : Int) (b : Bool) : divR1 r b = r * 2 % M + b2i b := by
  have hb := b2i_bound b
  unfold divR1
  rw [or_even _ _ (U_wrap _) (by rw [wrapM]; unfold M; omega) (by omega), wrapM]
theorem divQ2_eq (q : Int) : divQ2 q = q * 2 % M + 1 := by
  unfold divQ2
  rw [or_even _ _ (U_wrap _) (by rw [wrapM]; unfold M; omega) (by omega), wrapM]
theorem U_divR1 (r : Int) (b : Bool) : U (divR1 r b) := by
  rw [divR1_eq]; have := b2i_bound b; unfold U M; omega
theorem U_divQ2 (q : Int) : U (divQ2 q) := by
  rw [divQ2_eq]; unfold U M; omega

theorem div_unique {n d q r : Int} (h : n = d * q + r) (h0 : 0 ≤ r) (h1 : r < d) : n / d = q ∧ n % d = r := by
  have hq : n / d = q := by
    rw [h, Int.add_comm, Int.add_mul_ediv_left _ _ (by omega), Int.ediv_eq_zero_of_lt h0 h1]; omega
  refine ⟨hq, ?_⟩
  have := Int.mul_ediv_add_emod n d
  rw [hq] at this
  omega

theorem divStep_eq (by' : Int) (hby : U by') (N : Int) (b : Bool) (hpos : 0 < by') (hq : 0 ≤ N / by') (hq2 : 2 * (N / by') + 1 < M) :
    divStep by' (N % by', N / by') b = ((2 * N + b2i b) % by', (2 * N + b2i b) / by') := by
  have hb := b2i_bound b
  have hr0 := Int.emod_nonneg N (b := by') (by omega)
  have hr1 := Int.emod_lt_of_pos N hpos
  have hN := Int.mul_ediv_add_emod N by'
  generalize N / by' = q at *
  generalize N % by' = r at *
  have hNe : 2 * N + b2i b = by' * (2 * q) + (2 * r + b2i b) := by
    rw [← hN, Int.mul_add, Int.mul_left_comm]; omega
  have hNe1 : 2 * N + b2i b = by' * (2 * q + 1) + (2 * r + b2i b - by') := by
    rw [hNe, Int.mul_add by' (2 * q) 1]; omega
  unfold divStep
  dsimp only
  by_cases hge : by' ≤ 2 * r + b2i b
  · obtain ⟨e1, e2⟩ := div_unique hNe1 (by omega) (by omega)
    rw [e1, e2, if_pos, divQ2_eq]
    · refine Prod.ext ?_ ?_
      · show divR2 r by' b = _
        unfold divR2; rw [wrapM, divR1_eq]; unfold U M at *; omega
      · show q * 2 % M + 1 = _
        unfold M at *; omega
    · rw [divR1_eq]; unfold U M at *; omega
  · obtain ⟨e1, e2⟩ := div_unique hNe (by omega) (by omega)
    rw [e1, e2, if_neg]
    · refine Prod.ext ?_ ?_
      · show divR1 r b = _
        rw [divR1_eq]; unfold U M at *; omega
      · show divQ1 q = _
        unfold divQ1; rw [wrapM]; unfold M at *; omega
    · rw [divR1_eq]; unfold U M at *; omega

theorem divSt_eq (h by' : Int) (hh : U h) (hby : U by') (hlt : h < by') : ∀ (k : Nat) (l : List Bool), l.length = k → k ≤ 64 →
    divSt h by' l = ((h * 2 ^ k + val l) % by', (h * 2 ^ k + val l) / by') := by
  intro k
  have hpos : 0 < by' := by have := hh.1; omega
  induction k with
  | zero =>
    intro l hl _
    obtain rfl := List.length_eq_zero_iff.1 hl
    have := hh.1
    simp [divSt, val, Int.emod_eq_of_lt hh.1 hlt, Int.ediv_eq_zero_of_lt hh.1 hlt]
  | succ k ih =>
    intro l hl hk
    obtain ⟨l', b, rfl⟩ : ∃ l' b, l = l' ++ [b] := ⟨l.dropLast, l.getLast (by intro e; simp [e] at hl), (List.dropLast_concat_getLast _).symm⟩
    have hl' : l'.length = k := by simpa using hl
    have hv := val_bound l'
    rw [hl'] at hv
    rw [divSt_snoc, ih l' hl' (by omega), val_snoc]
    have hp : (0 : Int) < 2 ^ k := Int.pow_pos (by omega)
    have hp2 : (2 : Int) * 2 ^ k ≤ M := by
      have : (2 : Int) ^ (k + 1) ≤ 2 ^ 64 := pow_le (by omega)
      rw [Int.pow_succ] at this
      have e : (2 : Int) ^ 64 = M := rfl
      omega
    have hx : h * 2 ^ (k + 1) + (2 * val l' + b2i b) = 2 * (h * 2 ^ k + val l') + b2i b := by
      rw [Int.pow_succ, ← Int.mul_assoc]; omega
    have hn0 : 0 ≤ h * 2 ^ k := Int.mul_nonneg hh.1 (Int.le_of_lt hp)
    have hlt2 : h * 2 ^ k + val l' < 2 ^ k * by' := by
      have h1 : (h + 1) * 2 ^ k ≤ by' * 2 ^ k := Int.mul_le_mul_of_nonneg_right (by omega) (Int.le_of_lt hp)
      rw [Int.add_mul, Int.one_mul, Int.mul_comm by'] at h1
      omega
    have hq := Int.ediv_lt_of_lt_mul hpos hlt2
    rw [hx, divStep_eq by' hby _ b hpos (Int.ediv_nonneg (by omega) (by omega)) (by omega)]
theorem divSt_all (h l by' : Int) (hh : U h) (hl : U l) (hby : U by') (hlt : h < by') : divSt h by' (bitsUpto l 64) = (divR h l by', divQ h l by') := by
  rw [divSt_eq h by' hh hby hlt 64 _ (bitsUpto_length l 64) (by omega), val_all l hl]; rfl

/-- what Div tells: how often, what is left over, whether. -/
def divOk (h by' : Int) : Bool := !(by' == 0) && decide (h < by')
def divQq (h l by' : Int) : Int := if divOk h by' then divQ h l by' else 0
def divRr (h l by' : Int) : Int := if divOk h by' then divR h l by' else 0
theorem U_divQq (h l by' : Int) (hh : U h) (hl : U l) : U (divQq h l by') := by
  unfold divQq
  by_cases hk : divOk h by' = true
  · rw [if_pos hk]
    simp [divOk] at hk
    have := hh.1
    unfold divQ
    refine ⟨Int.ediv_nonneg ?_ (by omega), Int.ediv_lt_of_lt_mul (by omega) ?_⟩
    · have := Int.mul_nonneg hh.1 (show (0 : Int) ≤ M by unfold M; omega)
      have := hl.1
      omega
    · have h1 : (h + 1) * M ≤ by' * M := Int.mul_le_mul_of_nonneg_right (by omega) (by unfold M; omega)
      rw [Int.add_mul, Int.one_mul, Int.mul_comm by'] at h1
      have := hl.2
      omega
  · rw [if_neg hk]; exact U_zero
theorem U_divRr (h l by' : Int) (hby : U by') : U (divRr h l by') := by
  unfold divRr
  by_cases hk : divOk h by' = true
  · rw [if_pos hk]
    simp [divOk] at hk
    unfold divR
    have := Int.emod_nonneg (h * M + l) (b := by') (by omega)
    have := Int.emod_lt_of_pos (h * M + l) (b := by') (by have := hby.1; omega)
    unfold U at *
    omega
  · rw [if_neg hk]; exact U_zero

/-! ### 'Scale' -/
def scl (a b by' : Int) : Int := if divOk (mulH a b) by' then divQ (mulH a b) (mulL a b) by' else 18446744073709551615
theorem mul_parts (a b : Int) : mulH a b * M + mulL a b = a * b := by
  unfold mulH mulL; rw [Int.mul_comm _ M]; exact Int.mul_ediv_add_emod _ _

end Wd
end Go.Proofs.Ytgjacmkedgbneaa
