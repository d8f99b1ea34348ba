/-
  Jobs that are picked, as lists of numbers: what a job wants, what a step makes of all, what may be played. No condition.
-/
import Derived.Test.YthbabhmpkniliaaLkM
namespace Go.Proofs.Ythbabhmpkniliaa.Lk

/-- A section. -/
abbrev Pr := Int × Int
/-- The section's first lock, and its second one. -/
def lo (o : Bool) (p : Pr) : Int := if o then min p.1 p.2 else p.1
def hi (o : Bool) (p : Pr) : Int := if o then max p.1 p.2 else p.2
/-- What a job wants of which these sections are left, and that has these locks. -/
def wantsF (o : Bool) (left : List Pr) (holds : List Int) : Int :=
  match left with
  | [] => -1
  | p :: _ => if holds.length = 0 then lo o p else if holds.length = 1 ∧ lo o p ≠ hi o p then hi o p else -1
/-- What has come of jobs: the locks, what is left of each one, what each one has, whose sections were done. -/
structure St where
  b : List Int
  L : List (List Pr)
  H : List (List Int)
  D : List Int
def St.l (s : St) (k : Nat) : List Pr := s.L.getD k []
def St.h (s : St) (k : Nat) : List Int := s.H.getD k []
/-- All that k has is given back. -/
def giveAll (b : List Int) (hs : List Int) (k : Int) : List Int := hs.foldl (fun b x => giveL b x k) b
/-- A step of k. -/
def stepF (o : Bool) (s : St) (k : Nat) : St :=
  if wantsF o (s.l k) (s.h k) ≠ -1 then
    if takeE s.b (wantsF o (s.l k) (s.h k)) k = 0 then { s with b := s.b.set (wantsF o (s.l k) (s.h k)).toNat k, H := s.H.set k (s.h k ++ [wantsF o (s.l k) (s.h k)]) } else s
  else if 0 < (s.h k).length then { b := giveAll s.b (s.h k) k, L := s.L.set k (s.l k).tail, H := s.H.set k [], D := s.D ++ [(k : Int)] }
  else s
/-- A pick. -/
def pickF (o : Bool) (s : St) (z : Int) : St := if 0 ≤ z ∧ z < s.L.length then stepF o s z.toNat else s
def runF (o : Bool) (s : St) (zs : List Int) : St := zs.foldl (pickF o) s
/-- May these jobs be played with locks l? -/
def mayF (l : List Int) (js : List (List Pr)) : Int :=
  if 64 < js.length then 2 else if js.all (fun j => j.all (fun p => isL l p.1 && isL l p.2)) then 0 else 1
/-- The beginning. -/
def st0 (n : Int) (js : List (List Pr)) : St := ⟨newL n, js, js.map (fun _ => []), []⟩
/-- What each one has and wants. -/
def waitF (o : Bool) (s : St) : List (List Int × Int) := (List.range s.L.length).map fun k => (s.h k, wantsF o (s.l k) (s.h k))
/-- Play's error. -/
def playE (n : Int) (js : List (List Pr)) : Int := if newE n ≠ 0 then newE n else mayF (newL n) js
def playS (n : Int) (js : List (List Pr)) (o : Bool) (ps : List Int) : St := runF o (st0 n js) ps

def I (z : Int) : Prop := -9223372036854775808 ≤ z ∧ z ≤ 9223372036854775807
theorem lo_I {o : Bool} {p : Pr} (h : I p.1 ∧ I p.2) : I (lo o p) := by
  obtain ⟨h1, h2⟩ := h
  unfold lo I at *
  split <;> omega
theorem hi_I {o : Bool} {p : Pr} (h : I p.1 ∧ I p.2) : I (hi o p) := by
  obtain ⟨h1, h2⟩ := h
  unfold hi I at *
  split <;> omega
theorem wantsF_I {o : Bool} {l : List Pr} {h : List Int} (hl : ∀ p ∈ l, I p.1 ∧ I p.2) : I (wantsF o l h) := by
  cases l with
  | nil => show I (-1); unfold I; omega
  | cons p l =>
    have hp := hl p (List.mem_cons_self)
    unfold wantsF
    simp only []
    split
    · exact lo_I hp
    · split
      · exact hi_I hp
      · unfold I; omega
/-- What holds of all numbers on the way. -/
structure Good (n : Nat) (s : St) : Prop where
  b : s.b.length ≤ 65 ∧ ∀ z ∈ s.b, I z
  lenL : s.L.length = n
  lenH : s.H.length = n
  l : ∀ k, ∀ p ∈ s.l k, I p.1 ∧ I p.2
  h : ∀ k, (∀ z ∈ s.h k, I z) ∧ (s.h k).length ≤ 2
  d : ∀ z ∈ s.D, I z
  nz : ∀ k, s.l k = [] → s.h k = []
theorem getD_set_ite {α : Type} (l : List α) (k j : Nat) (x d : α) (hk : k < l.length) : (l.set k x).getD j d = if j = k then x else l.getD j d := by
  by_cases e : j = k
  · subst e; simp [List.getD, hk]
  · rw [if_neg e]; simp [List.getD, List.getElem?_set_ne (fun h => e h.symm)]
theorem giveL_good {b : List Int} {x k : Int} (h : b.length ≤ 65 ∧ ∀ z ∈ b, I z) : (giveL b x k).length ≤ 65 ∧ ∀ z ∈ giveL b x k, I z := by
  unfold giveL
  split
  · refine ⟨by rw [List.length_set]; exact h.1, fun z hz => ?_⟩
    rcases List.mem_or_eq_of_mem_set hz with h1 | rfl
    · exact h.2 z h1
    · unfold I; omega
  · exact ⟨by simp, fun z hz => by simp at hz⟩
theorem giveAll_good {hs : List Int} {k : Int} : ∀ {b : List Int}, (b.length ≤ 65 ∧ ∀ z ∈ b, I z) → (giveAll b hs k).length ≤ 65 ∧ ∀ z ∈ giveAll b hs k, I z := by
  induction hs with
  | nil => intro b h; exact h
  | cons x t ih => intro b h; exact ih (b := giveL b x k) (giveL_good h)
theorem wantsF_two {o : Bool} {l : List Pr} {h : List Int} (hw : wantsF o l h ≠ -1) : h.length ≤ 1 := by
  cases l with
  | nil => exact absurd rfl hw
  | cons p l =>
    unfold wantsF at hw
    simp only [] at hw
    split at hw
    · omega
    · split at hw
      · omega
      · exact absurd rfl hw
theorem Good.step {n : Nat} {s : St} (h : Good n s) (o : Bool) {k : Nat} (hk : k < n) (hn : n ≤ 64) : Good n (stepF o s k) := by
  unfold stepF
  split
  · next hw =>
    split
    · have hI := wantsF_I (o := o) (h := s.h k) (h.l k)
      refine ⟨⟨by rw [List.length_set]; exact h.b.1, fun z hz => ?_⟩, h.lenL, by rw [List.length_set]; exact h.lenH, h.l, fun j => ?_, h.d, ?_⟩
      · rcases List.mem_or_eq_of_mem_set hz with h1 | rfl
        · exact h.b.2 z h1
        · unfold I; omega
      · show (∀ z ∈ (s.H.set k _).getD j [], I z) ∧ ((s.H.set k _).getD j []).length ≤ 2
        rw [getD_set_ite _ _ _ _ _ (by rw [h.lenH]; exact hk)]
        split
        · refine ⟨fun z hz => ?_, by have := wantsF_two hw; simp; omega⟩
          rcases List.mem_append.1 hz with h1 | h1
          · exact (h.h k).1 z h1
          · simp at h1; rw [h1]; exact hI
        · exact h.h j
      · intro j hj
        show (s.H.set k _).getD j [] = []
        rw [getD_set_ite _ _ _ _ _ (by rw [h.lenH]; exact hk)]
        split
        · next e => subst e; rw [show s.l j = [] from hj] at hw; exact absurd rfl hw
        · exact h.nz j hj
    · exact h
  · split
    · refine ⟨giveAll_good h.b, by rw [List.length_set]; exact h.lenL, by rw [List.length_set]; exact h.lenH, fun j => ?_, fun j => ?_, fun z hz => ?_, fun j => ?_⟩
      · show ∀ p ∈ (s.L.set k _).getD j [], I p.1 ∧ I p.2
        rw [getD_set_ite _ _ _ _ _ (by rw [h.lenL]; exact hk)]
        split
        · exact fun p hp => h.l k p (List.mem_of_mem_tail hp)
        · exact h.l j
      · show (∀ z ∈ (s.H.set k _).getD j [], I z) ∧ ((s.H.set k _).getD j []).length ≤ 2
        rw [getD_set_ite _ _ _ _ _ (by rw [h.lenH]; exact hk)]
        split
        · exact ⟨fun z hz => by simp at hz, by simp⟩
        · exact h.h j
      · rcases List.mem_append.1 hz with h1 | h1
        · exact h.d z h1
        · simp at h1; unfold I; omega
      · show (s.L.set k _).getD j [] = [] → (s.H.set k _).getD j [] = []
        rw [getD_set_ite _ _ _ _ _ (by rw [h.lenL]; exact hk), getD_set_ite _ _ _ _ _ (by rw [h.lenH]; exact hk)]
        split
        · exact fun _ => rfl
        · exact h.nz j
    · exact h
end Go.Proofs.Ythbabhmpkniliaa.Lk
