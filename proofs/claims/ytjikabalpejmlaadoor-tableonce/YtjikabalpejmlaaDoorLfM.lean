/-
  Plain numbers behind layer 7: what an event is of and comes to, what a word comes to, behind one event and behind many.
-/
import Derived.Test.YtjikabalpejmlaaDoorPkM
namespace Go.Proofs.YtjikabalpejmlaaDoor
namespace Lf
open Pk

/-- The kinds that an event is of, by numbers; 8 to 10 are of Blocking, without a Bit or with it. -/
def kinds : Nat → List Int
  | 0 => [0] | 1 => [1, 3, 4, 5] | 2 => [1] | 3 => [2] | 4 => [2, 3] | 5 => [4] | 6 => [5] | 7 => [5] | 11 => [5] | 12 => [1] | 13 => [4, 5] | 14 => [6] | 15 => [4] | _ => []
def cn (zs : List Int) (x : Int) : Bool := zs.contains x
def ofB (i : Nat) (k : Int) (b : Bool) : Bool :=
  match i with
  | 8 => k == 7 && b == false
  | 9 => k == 7 && b == false
  | 10 => k == 7 && b == true
  | i => cn (kinds i) k
def toK : Nat → Int
  | 0 => 1 | 1 => 0 | 2 => 2 | 3 => 3 | 4 => 4 | 5 => 5 | 6 => 4 | 7 => 7 | 8 => 7 | 9 => 1 | 10 => 3 | 11 => 1 | 12 => 1 | 13 => 6 | 14 => 4 | 15 => 4 | _ => 0
def chC (i : Nat) (c cpu : Int) : Int := match i with | 0 => cpu | 1 => 0 | 11 => cpu | 12 => cpu | 13 => cpu | 15 => cpu | _ => c
def chS (i : Nat) (s : Int) : Int := match i with | 0 => 0 | 1 => 0 | 2 => (s + 1) % 65536 | _ => s
def chG (i : Nat) (g : Int) : Int := match i with | 0 => g + 1 | _ => g
/-- With a Bit just behind EvNote. -/
def chB (i : Nat) : Bool := match i with | 8 => true | _ => false

/-- What is asked of w, event and CPU ahead of all else. -/
def okA (w ev cpu : Int) : Prop := isW w ∧ (0 ≤ ev ∧ ev ≤ 15) ∧ (0 ≤ cpu ∧ cpu ≤ 63)
instance (w ev cpu : Int) : Decidable (okA w ev cpu) := by unfold okA; infer_instance
/-- The error, and the word, that Next tells. -/
def nxE (w ev cpu : Int) : Int :=
  if okA w ev cpu then (if ofB ev.toNat (K w) (B w) = true then (if ev = 0 ∧ G w = 4294967295 then 5 else 0) else 4) else 1
def nxW (w ev cpu : Int) : Int :=
  if nxE w ev cpu = 0 then word (toK ev.toNat) (chC ev.toNat (C w) cpu) (chB ev.toNat) (chS ev.toNat (S w)) (chG ev.toNat (G w)) else 0

theorem nx_arg {w ev cpu : Int} (h : ¬ okA w ev cpu) : nxE w ev cpu = 1 ∧ nxW w ev cpu = 0 := by
  have : nxE w ev cpu = 1 := by simp [nxE, h]
  exact ⟨this, by simp [nxW, this]⟩
theorem nx_order {w ev cpu : Int} (h : okA w ev cpu) (ho : ofB ev.toNat (K w) (B w) = false) : nxE w ev cpu = 4 ∧ nxW w ev cpu = 0 := by
  have : nxE w ev cpu = 4 := by simp [nxE, h, ho]
  exact ⟨this, by simp [nxW, this]⟩
theorem nx_full {w ev cpu : Int} (h : okA w ev cpu) (ho : ofB ev.toNat (K w) (B w) = true) (hf : ev = 0 ∧ G w = 4294967295) : nxE w ev cpu = 5 ∧ nxW w ev cpu = 0 := by
  have : nxE w ev cpu = 5 := by unfold nxE; rw [if_pos h, if_pos ho, if_pos hf]
  exact ⟨this, by simp [nxW, this]⟩
theorem nx_yes {w ev cpu : Int} (h : okA w ev cpu) (ho : ofB ev.toNat (K w) (B w) = true) (hf : ¬ (ev = 0 ∧ G w = 4294967295)) :
    nxE w ev cpu = 0 ∧ nxW w ev cpu = word (toK ev.toNat) (chC ev.toNat (C w) cpu) (chB ev.toNat) (chS ev.toNat (S w)) (chG ev.toNat (G w)) := by
  have : nxE w ev cpu = 0 := by simp [nxE, h, ho, hf]
  exact ⟨this, by simp [nxW, this]⟩
/-- No error: so all of it. -/
theorem nx_inv {w ev cpu : Int} (h : nxE w ev cpu = 0) : okA w ev cpu ∧ ofB ev.toNat (K w) (B w) = true ∧ ¬ (ev = 0 ∧ G w = 4294967295) := by
  by_cases a : okA w ev cpu
  · by_cases b : ofB ev.toNat (K w) (B w) = true
    · by_cases c : ev = 0 ∧ G w = 4294967295
      · rw [(nx_full a b c).1] at h; cases h
      · exact ⟨a, b, c⟩
    · rw [(nx_order a (by simpa using b)).1] at h; cases h
  · rw [(nx_arg a).1] at h; cases h

theorem sixteen {ev : Int} (h : 0 ≤ ev ∧ ev ≤ 15) : ∃ i : Nat, i < 16 ∧ ev = (i : Int) ∧ ev.toNat = i := ⟨ev.toNat, by omega, by omega, rfl⟩

theorem toK_le (i : Nat) : 0 ≤ toK i ∧ toK i ≤ 7 := by unfold toK; split <;> decide
theorem chB_toK (i : Nat) (h : chB i = true) : toK i = 7 := by
  unfold chB at h
  split at h
  · rfl
  · cases h
theorem chC_le (i : Nat) {c cpu : Int} (hc : 0 ≤ c ∧ c ≤ 63) (hp : 0 ≤ cpu ∧ cpu ≤ 63) : 0 ≤ chC i c cpu ∧ chC i c cpu ≤ 63 := by unfold chC; split <;> omega
theorem chS_le (i : Nat) {s : Int} (h : 0 ≤ s ∧ s ≤ 65535) : 0 ≤ chS i s ∧ chS i s ≤ 65535 := by unfold chS; split <;> omega
theorem chG_le (i : Nat) {g : Int} (h : 0 ≤ g ∧ g ≤ 4294967295) (hn : i = 0 → g ≠ 4294967295) : 0 ≤ chG i g ∧ chG i g ≤ 4294967295 := by
  unfold chG; split
  · have := hn rfl; omega
  · exact h

/-- The state that comes of one that may be may be. -/
theorem nx_may {w ev cpu : Int} (h : okA w ev cpu) (hf : ¬ (ev = 0 ∧ G w = 4294967295)) :
    may (toK ev.toNat) (chC ev.toNat (C w) cpu) (chB ev.toNat) (chS ev.toNat (S w)) (chG ev.toNat (G w)) := by
  obtain ⟨hw, he, hc⟩ := h
  obtain ⟨-, pc, ps, pg, -⟩ := parts_may hw
  refine ⟨toK_le _, chC_le _ pc hc, chS_le _ ps, chG_le _ pg (fun h0 hg => hf ⟨by omega, hg⟩), chB_toK _⟩

/-- What comes of a word, part by part. -/
theorem nx_parts {w ev cpu : Int} (h : nxE w ev cpu = 0) : isW (nxW w ev cpu) ∧ K (nxW w ev cpu) = toK ev.toNat ∧ C (nxW w ev cpu) = chC ev.toNat (C w) cpu ∧ B (nxW w ev cpu) = chB ev.toNat ∧ S (nxW w ev cpu) = chS ev.toNat (S w) ∧ G (nxW w ev cpu) = chG ev.toNat (G w) := by
  obtain ⟨a, b, c⟩ := nx_inv h
  rw [(nx_yes a b c).2]
  have m := nx_may a c
  exact ⟨word_isW m, word_parts m⟩
theorem nx_U {w ev cpu : Int} : U (nxW w ev cpu) := by
  by_cases h : nxE w ev cpu = 0
  · have := (nx_parts h).1
    unfold isW at this; unfold U; omega
  · have : nxW w ev cpu = 0 := by simp [nxW, h]
    rw [this]; unfold U; omega
theorem isW_U {w : Int} (h : isW w) : U w := by unfold isW at h; unfold U; omega

/-- Of a state's word, told by its parts. -/
theorem nx_word {k c : Int} {b : Bool} {s g : Int} (h : may k c b s g) {ev cpu : Int} (he : 0 ≤ ev ∧ ev ≤ 15) (hc : 0 ≤ cpu ∧ cpu ≤ 63) (ho : ofB ev.toNat k b = true) (hf : ¬ (ev = 0 ∧ g = 4294967295)) :
    nxE (word k c b s g) ev cpu = 0 ∧ nxW (word k c b s g) ev cpu = word (toK ev.toNat) (chC ev.toNat c cpu) (chB ev.toNat) (chS ev.toNat s) (chG ev.toNat g) := by
  obtain ⟨pK, pC, pB, pS, pG⟩ := word_parts h
  have := nx_yes (w := word k c b s g) (ev := ev) (cpu := cpu) ⟨word_isW h, he, hc⟩ (by rw [pK, pB]; exact ho) (by rw [pG]; exact hf)
  rw [pC, pS, pG] at this
  exact this

/-- May, Settled, Awake. -/
def mayN (w ev : Int) : Bool := nxE w ev 0 == 0
def setl (w : Int) : Bool := decide (isW w ∧ K w ≠ 2 ∧ K w ≠ 6 ∧ K w ≠ 7)
def awk (w : Int) : Bool := decide (isW w ∧ (3 ≤ K w ∧ K w ≤ 6 ∨ B w = true))

/-- What Play tells: the word, and how many. -/
def pl : Int → List (Int × Int) → Int × Nat
  | w, [] => (w, 0)
  | w, x :: l => if nxE w x.1 x.2 = 0 then ((pl (nxW w x.1 x.2) l).1, (pl (nxW w x.1 x.2) l).2 + 1) else (w, 0)
theorem pl_le (w : Int) (l : List (Int × Int)) : (pl w l).2 ≤ l.length := by
  induction l generalizing w with
  | nil => exact Nat.le_refl _
  | cons x l ih =>
    unfold pl
    split
    · simp only [List.length_cons]; have := ih (nxW w x.1 x.2); omega
    · simp
/-- One part behind the other. -/
theorem pl_append (w : Int) (a b : List (Int × Int)) : pl w (a ++ b) = if (pl w a).2 = a.length then ((pl (pl w a).1 b).1, a.length + (pl (pl w a).1 b).2) else pl w a := by
  induction a generalizing w with
  | nil => simp [pl]
  | cons x a ih =>
    simp only [List.cons_append, pl]
    by_cases h : nxE w x.1 x.2 = 0
    · simp only [h, if_true, ih, List.length_cons]
      by_cases e : (pl (nxW w x.1 x.2) a).2 = a.length
      · simp only [e, if_true, Prod.mk.injEq, true_and]; omega
      · simp only [e, if_false, Nat.add_right_cancel_iff]
    · simp only [h, if_false, List.length_cons]
      simp
theorem pl_snoc {w : Int} {a : List (Int × Int)} {x : Int × Int} {v : Int} (h : pl w a = (v, a.length)) (hx : nxE v x.1 x.2 = 0) : pl w (a ++ [x]) = (nxW v x.1 x.2, a.length + 1) := by
  rw [pl_append, h]; simp [pl, hx]
theorem pl_stop {w : Int} {a b : List (Int × Int)} {x : Int × Int} {v : Int} (h : pl w a = (v, a.length)) (hx : nxE v x.1 x.2 ≠ 0) : pl w (a ++ x :: b) = (v, a.length) := by
  rw [pl_append, h]; simp [pl, hx]
theorem pl_U {w : Int} (hw : U w) (l : List (Int × Int)) : U (pl w l).1 := by
  induction l generalizing w with
  | nil => exact hw
  | cons x l ih =>
    unfold pl
    split
    · exact ih nx_U
    · exact hw

/-- LifeRight's number: the Gen of what comes. -/
theorem gen_more {w ev cpu : Int} (h : nxE w ev cpu = 0) : G (nxW w ev cpu) = G w + (if ev = 0 then 1 else 0) := by
  rw [(nx_parts h).2.2.2.2.2]
  obtain ⟨⟨-, he, -⟩, -, -⟩ := nx_inv h
  obtain ⟨i, hi, rfl, hn⟩ := sixteen he
  rw [hn]
  unfold chG
  split
  · simp
  · rename_i h0
    have : ¬ ((i : Int) = 0) := fun e => h0 (by omega)
    rw [if_neg this]; omega
theorem bit_more {w ev cpu : Int} (h : nxE w ev cpu = 0) : B (nxW w ev cpu) = (ev == 8) := by
  rw [(nx_parts h).2.2.2.1]
  obtain ⟨⟨-, he, -⟩, -, -⟩ := nx_inv h
  obtain ⟨i, hi, rfl, hn⟩ := sixteen he
  rw [hn]
  unfold chB
  split
  · rfl
  · rename_i h0
    have : ¬ ((i : Int) = 8) := fun e => h0 (by omega)
    simp [this]

/-- What sleeps, or is free. -/
def calm (w : Int) : Prop := isW w ∧ (K w = 0 ∨ K w = 1)
theorem calm_not {w : Int} (h : calm w) : awk w = false := by
  obtain ⟨hw, hk⟩ := h
  unfold awk
  rw [decide_eq_false_iff_not]
  rintro ⟨-, h | h⟩
  · omega
  · have := (parts_may hw).2.2.2.2 h; omega
theorem calm_on {w ev cpu : Int} (h : calm w) (hn : nxE w ev cpu = 0) (h2 : ev ≠ 2) : calm (nxW w ev cpu) := by
  obtain ⟨hw, hk⟩ := h
  obtain ⟨p, pk, -⟩ := nx_parts hn
  refine ⟨p, ?_⟩
  rw [pk]
  obtain ⟨⟨-, he, -⟩, ho, -⟩ := nx_inv hn
  obtain ⟨i, hi, rfl, ht⟩ := sixteen he
  rw [ht] at ho ⊢
  clear ht he hn pk p hw
  have h2' : i ≠ 2 := by omega
  generalize B w = b at ho
  rcases hk with hk | hk <;> rw [hk] at ho <;>
  (match i, hi with
   | 0, _ => revert ho; decide +revert
   | 1, _ => revert ho; decide +revert
   | 2, _ => exact absurd rfl h2'
   | 3, _ => revert ho; decide +revert
   | 4, _ => revert ho; decide +revert
   | 5, _ => revert ho; decide +revert
   | 6, _ => revert ho; decide +revert
   | 7, _ => revert ho; decide +revert
   | 8, _ => revert ho; decide +revert
   | 9, _ => revert ho; decide +revert
   | 10, _ => revert ho; decide +revert
   | 11, _ => revert ho; decide +revert
   | 12, _ => revert ho; decide +revert
   | 13, _ => revert ho; decide +revert
   | 14, _ => revert ho; decide +revert
   | 15, _ => revert ho; decide +revert)
end Lf
end Go.Proofs.YtjikabalpejmlaaDoor
