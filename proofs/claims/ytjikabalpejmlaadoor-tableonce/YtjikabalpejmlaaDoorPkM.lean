/-
  Plain numbers behind layer 6: a state's parts, whether it may be, its word; and of a word its parts.
-/
import Derived.WalkKit
import Derived.Laws.Bits64b
namespace Go.Proofs.YtjikabalpejmlaaDoor
namespace Pk

def bitN (b : Bool) : Int := if b then 512 else 0
/-- The state may be. -/
def may (k c : Int) (b : Bool) (s g : Int) : Prop := (0 ≤ k ∧ k ≤ 7) ∧ (0 ≤ c ∧ c ≤ 63) ∧ (0 ≤ s ∧ s ≤ 65535) ∧ (0 ≤ g ∧ g ≤ 4294967295) ∧ (b = true → k = 7)
instance (k c : Int) (b : Bool) (s g : Int) : Decidable (may k c b s g) := by unfold may; infer_instance
def word (k c : Int) (b : Bool) (s g : Int) : Int := k + 8 * c + bitN b + 1024 * s + 67108864 * g
/-- What Pack tells. -/
def pkW (k c : Int) (b : Bool) (s g : Int) : Int := if may k c b s g then word k c b s g else 0
def pkE (k c : Int) (b : Bool) (s g : Int) : Int := if may k c b s g then 0 else 1
theorem pk_yes {k c : Int} {b : Bool} {s g : Int} (h : may k c b s g) : pkW k c b s g = word k c b s g ∧ pkE k c b s g = 0 := by simp [pkW, pkE, h]
theorem pk_no {k c : Int} {b : Bool} {s g : Int} (h : ¬ may k c b s g) : pkW k c b s g = 0 ∧ pkE k c b s g = 1 := by simp [pkW, pkE, h]

def mayB (k c : Int) (b : Bool) (s g : Int) : Bool := decide (may k c b s g)
theorem mayB_yes {k c : Int} {b : Bool} {s g : Int} (h : may k c b s g) : mayB k c b s g = true := decide_eq_true h
theorem mayB_no {k c : Int} {b : Bool} {s g : Int} (h : ¬ may k c b s g) : mayB k c b s g = false := decide_eq_false h

/-- A number of 64 bits. -/
def U (w : Int) : Prop := 0 ≤ w ∧ w < 18446744073709551616
def K (w : Int) : Int := w % 8
def C (w : Int) : Int := w / 8 % 64
def B (w : Int) : Bool := decide (w / 512 % 2 = 1)
def S (w : Int) : Int := w / 1024 % 65536
def G (w : Int) : Int := w / 67108864 % 4294967296
/-- The word is a state's. -/
def isW (w : Int) : Prop := 0 ≤ w ∧ w < 288230376151711744 ∧ (w / 512 % 2 = 1 → w % 8 = 7)
instance (w : Int) : Decidable (isW w) := by unfold isW; infer_instance
/-- What Unpack tells. -/
def uK (w : Int) : Int := if isW w then K w else 0
def uC (w : Int) : Int := if isW w then C w else 0
def uB (w : Int) : Bool := if isW w then B w else false
def uS (w : Int) : Int := if isW w then S w else 0
def uG (w : Int) : Int := if isW w then G w else 0
def uE (w : Int) : Int := if isW w then 0 else 1
theorem un_yes {w : Int} (h : isW w) : uK w = K w ∧ uC w = C w ∧ uB w = B w ∧ uS w = S w ∧ uG w = G w ∧ uE w = 0 := by simp [uK, uC, uB, uS, uG, uE, h]
theorem un_no {w : Int} (h : ¬ isW w) : uK w = 0 ∧ uC w = 0 ∧ uB w = false ∧ uS w = 0 ∧ uG w = 0 ∧ uE w = 1 := by simp [uK, uC, uB, uS, uG, uE, h]

/-- What Put tells. -/
def ptW (w k c : Int) : Int := if isW w then pkW k c false (S w) (G w) else 0
def ptE (w k c : Int) : Int := if isW w then pkE k c false (S w) (G w) else 1
theorem pt_yes {w : Int} (h : isW w) (k c : Int) : ptW w k c = pkW k c false (S w) (G w) ∧ ptE w k c = pkE k c false (S w) (G w) := by simp [ptW, ptE, h]
theorem pt_no {w : Int} (h : ¬ isW w) (k c : Int) : ptW w k c = 0 ∧ ptE w k c = 1 := by simp [ptW, ptE, h]

theorem word_lt {k c : Int} {b : Bool} {s g : Int} (h : may k c b s g) : 0 ≤ word k c b s g ∧ word k c b s g < 288230376151711744 := by
  unfold may at h; unfold word bitN
  cases b <;> simp at * <;> omega
theorem word_isW {k c : Int} {b : Bool} {s g : Int} (h : may k c b s g) : isW (word k c b s g) := by
  have := word_lt h
  refine ⟨this.1, this.2, ?_⟩
  unfold may at h; unfold word bitN
  cases b <;> simp at * <;> omega
theorem word_parts {k c : Int} {b : Bool} {s g : Int} (h : may k c b s g) :
    K (word k c b s g) = k ∧ C (word k c b s g) = c ∧ B (word k c b s g) = b ∧ S (word k c b s g) = s ∧ G (word k c b s g) = g := by
  unfold may at h
  unfold K C B S G word bitN
  cases b <;> simp at * <;> omega
theorem parts_may {w : Int} (h : isW w) : may (K w) (C w) (B w) (S w) (G w) := by
  unfold isW at h
  unfold may K C B S G
  simp only [decide_eq_true_eq]
  omega
theorem parts_word {w : Int} (h : isW w) : word (K w) (C w) (B w) (S w) (G w) = w := by
  unfold isW at h
  unfold word bitN K C B S G
  by_cases e : w / 512 % 2 = 1 <;> simp [e] <;> omega
/-- The word goes back into itself just where it is a state's. -/
theorem isW_iff {w : Int} : isW w ↔ (pkE (K w) (C w) (B w) (S w) (G w) = 0 ∧ pkW (K w) (C w) (B w) (S w) (G w) = w) := by
  constructor
  · intro h
    have := pk_yes (parts_may h)
    exact ⟨this.2, by rw [this.1, parts_word h]⟩
  · rintro ⟨h1, h2⟩
    by_cases h : may (K w) (C w) (B w) (S w) (G w)
    · have := word_isW h
      rwa [← (pk_yes h).1, h2] at this
    · rw [(pk_no h).2] at h1; omega

/-- The laws' own states, by numbers: their parts. -/
def sS (n : Int) : Int := n / 512 % 65536
def sG (n : Int) : Int := n / 33554432 % 4294967296
def sB (n : Int) (b : Bool) : Bool := b && (n % 8 == 7)
theorem state_may (n : Int) (b : Bool) : may (K n) (C n) (sB n b) (sS n) (sG n) := by
  unfold may K C sB sS sG
  simp only [Bool.and_eq_true, beq_iff_eq]
  omega

/-- Or of what lies below a power of two and a multiple of it. -/
theorem or_add (a b n : Nat) (ha : a < 2 ^ n) (hs : 2 ^ n * b < 18446744073709551616) (hn : 2 ^ n ≤ 18446744073709551616) : bits .or .u64 (a : Int) ((2 ^ n * b : Nat) : Int) = ((a + 2 ^ n * b : Nat) : Int) := by
  rw [bits_or_u64_nat a _ (by omega) hs, Nat.or_comm, ← Nat.two_pow_add_eq_or_of_lt ha, Nat.add_comm]
theorem or_int (n : Nat) (a b x : Int) (h0 : 0 ≤ a) (ha : a < 2 ^ n) (hb : 0 ≤ b) (hx : x = 2 ^ n * b) (hs : x < 18446744073709551616) (hn : (2 : Int) ^ n ≤ 18446744073709551616) : bits .or .u64 a x = a + x := by
  obtain ⟨a', rfl⟩ : ∃ k : Nat, a = (k : Int) := ⟨a.toNat, by omega⟩
  obtain ⟨b', rfl⟩ : ∃ k : Nat, b = (k : Int) := ⟨b.toNat, by omega⟩
  have e : (2 : Int) ^ n = ((2 ^ n : Nat) : Int) := by simp
  rw [e] at ha hx hn
  have hx' : x = ((2 ^ n * b' : Nat) : Int) := by rw [hx]; simp
  subst hx'
  rw [or_add a' b' n (by omega) (by omega) (by omega)]
  simp
theorem and_mod (a n : Nat) (ha : a < 18446744073709551616) (hn : 2 ^ n ≤ 18446744073709551616) : bits .and .u64 (a : Int) ((2 ^ n - 1 : Nat) : Int) = ((a % 2 ^ n : Nat) : Int) := by
  rw [bits_and_u64_nat a _ ha (by have := Nat.two_pow_pos n; omega), Nat.and_two_pow_sub_one_eq_mod]
theorem and_int (n : Nat) (a x : Int) (ha : U a) (hx : x = 2 ^ n - 1) (hn : (2 : Int) ^ n ≤ 18446744073709551616) : bits .and .u64 a x = a % (x + 1) := by
  unfold U at ha
  obtain ⟨a', rfl⟩ : ∃ k : Nat, a = (k : Int) := ⟨a.toNat, by omega⟩
  have e : (2 : Int) ^ n = ((2 ^ n : Nat) : Int) := by simp
  have := Nat.two_pow_pos n
  have hx' : x = ((2 ^ n - 1 : Nat) : Int) := by rw [hx, e]; omega
  rw [e] at hn
  subst hx'
  rw [and_mod a' n (by omega) (by omega)]
  have : ((2 ^ n - 1 : Nat) : Int) + 1 = ((2 ^ n : Nat) : Int) := by omega
  rw [this]; simp
/-- The parts, one beside the other, are their sum. -/
theorem ors (k c s g x : Int) (hk : 0 ≤ k ∧ k ≤ 7) (hc : 0 ≤ c ∧ c ≤ 63) (hs : 0 ≤ s ∧ s ≤ 65535) (hg : 0 ≤ g ∧ g ≤ 4294967295) (hx : x = 0 ∨ x = 512) :
    bits .or .u64 (bits .or .u64 (bits .or .u64 (bits .or .u64 (bits .or .u64 0 k) (c * 8)) x) (s * 1024)) (g * 67108864) = k + 8 * c + x + 1024 * s + 67108864 * g := by
  rw [or_int 0 0 k k (by omega) (by decide) (by omega) (by omega) (by omega) (by decide),
    or_int 3 (0 + k) c (c * 8) (by omega) (by omega) (by omega) (by omega) (by omega) (by decide),
    or_int 9 (0 + k + c * 8) (x / 512) x (by omega) (by omega) (by omega) (by omega) (by omega) (by decide),
    or_int 10 (0 + k + c * 8 + x) s (s * 1024) (by omega) (by omega) (by omega) (by omega) (by omega) (by decide),
    or_int 26 (0 + k + c * 8 + x + s * 1024) g (g * 67108864) (by omega) (by omega) (by omega) (by omega) (by omega) (by decide)]
  omega
end Pk
end Go.Proofs.YtjikabalpejmlaaDoor
