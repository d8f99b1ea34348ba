/-
  Who is stuck, as sets of numbers: the greatest set of waiters each of whom wants what one of it has; what a map of who waits for whom comes to. No condition.
-/
import Derived.Test.YthbabhmpkniliaaLkT
namespace Go.Proofs.Ythbabhmpkniliaa.Lk

/-- A waiter: what it has, and what it wants. -/
abbrev Wt := List Int × Int
def wE : Wt := ([], 0)
def holdsW (ws : List Wt) (i : Nat) : List Int := (ws.getD i wE).1
def wantsW (ws : List Wt) (i : Nat) : Int := (ws.getD i wE).2
/-- A set of waiters, each of whom wants a lock that one of it has. -/
def ClosedW (ws : List Wt) (S : Nat → Prop) : Prop := ∀ i, S i → i < ws.length ∧ ∃ j, S j ∧ wantsW ws i ∈ holdsW ws j
def Dead (ws : List Wt) (i : Nat) : Prop := ∃ S, ClosedW ws S ∧ S i
theorem Dead.closed (ws : List Wt) : ClosedW ws (Dead ws) := by
  rintro i ⟨S, hS, hi⟩
  obtain ⟨h1, j, hj, hm⟩ := hS i hi
  exact ⟨h1, j, ⟨S, hS, hj⟩, hm⟩
/-- Whose each lock is, in the order of the waiters. -/
def pairsOf (i : Nat) (h : List Int) : List (Int × Int) := h.map (fun x => (x, (i : Int)))
def allP (ws : List Wt) (k : Nat) : List (Int × Int) := (List.range k).flatMap (fun i => pairsOf i (holdsW ws i))
/-- Who has a lock. -/
def hf (ps : List (Int × Int)) (x : Int) : Option Int := (ps.find? (fun p => p.1 == x)).map Prod.snd
def okP (ps : List (Int × Int)) : Prop := (∀ p ∈ ps, 0 ≤ p.1) ∧ (ps.map Prod.fst).Nodup
/-- May these waiters be? -/
def okW (ws : List Wt) : Prop := okP (allP ws ws.length) ∧ ∀ i, i < ws.length → wantsW ws i ∉ holdsW ws i
open Classical in
noncomputable def stuckE (ws : List Wt) : Int := if 64 < ws.length then 2 else if okW ws then 0 else 1
open Classical in
noncomputable def stuckL (ws : List Wt) : List Int := ((List.range ws.length).filter (fun i => decide (Dead ws i))).map Int.ofNat
noncomputable def stuckR (ws : List Wt) : List Int := if stuckE ws = 0 then stuckL ws else []

theorem allP_succ (ws : List Wt) (k : Nat) : allP ws (k + 1) = allP ws k ++ pairsOf k (holdsW ws k) := by
  unfold allP; rw [List.range_succ, List.flatMap_append]; simp
theorem allP_prefix (ws : List Wt) {k n : Nat} (h : k ≤ n) : ∃ t, allP ws n = allP ws k ++ t := by
  induction n with
  | zero => exact ⟨[], by rw [show k = 0 by omega]; simp⟩
  | succ n ih =>
    by_cases e : k = n + 1
    · exact ⟨[], by rw [e]; simp⟩
    · obtain ⟨t, ht⟩ := ih (by omega)
      exact ⟨t ++ pairsOf n (holdsW ws n), by rw [allP_succ, ht, List.append_assoc]⟩
theorem pairs_take {i : Nat} {h : List Int} {q : Nat} (hq : q < h.length) : pairsOf i (h.take (q + 1)) = pairsOf i (h.take q) ++ [(h.getD q 0, (i : Int))] := by
  unfold pairsOf
  rw [List.take_add_one, List.getElem?_eq_getElem hq, List.map_append]
  simp [List.getD, hq]
theorem okP_prefix {a b : List (Int × Int)} (h : okP (a ++ b)) : okP a :=
  ⟨fun p hp => h.1 p (List.mem_append_left _ hp), by have := h.2; rw [List.map_append] at this; exact (List.nodup_append.1 this).1⟩
theorem hf_none {ps : List (Int × Int)} {x : Int} : hf ps x = none ↔ ∀ p ∈ ps, p.1 ≠ x := by
  unfold hf
  rw [Option.map_eq_none_iff, List.find?_eq_none]
  simp
theorem hf_mem {ps : List (Int × Int)} {x y : Int} (h : hf ps x = some y) : (x, y) ∈ ps := by
  unfold hf at h
  obtain ⟨p, hp, rfl⟩ := Option.map_eq_some_iff.1 h
  have h1 := List.find?_some hp
  have h2 := List.mem_of_find?_eq_some hp
  simp at h1
  rw [← h1]; exact h2
theorem okP_snoc {ps : List (Int × Int)} {x y : Int} (h : okP ps) : okP (ps ++ [(x, y)]) ↔ 0 ≤ x ∧ hf ps x = none := by
  constructor
  · intro ⟨h1, h2⟩
    refine ⟨h1 (x, y) (by simp), hf_none.2 fun p hp e => ?_⟩
    rw [List.map_append, List.nodup_append] at h2
    exact h2.2.2 p.1 (List.mem_map.2 ⟨p, hp, rfl⟩) x (by simp) e
  · intro ⟨h1, h2⟩
    refine ⟨fun p hp => ?_, ?_⟩
    · rcases List.mem_append.1 hp with h3 | h3
      · exact h.1 p h3
      · simp at h3; rw [h3]; exact h1
    · rw [List.map_append, List.nodup_append]
      refine ⟨h.2, by simp, fun a ha b hb e => ?_⟩
      obtain ⟨p, hp, rfl⟩ := List.mem_map.1 ha
      simp at hb
      exact hf_none.1 h2 p hp (e.trans hb)
theorem hf_snoc {ps : List (Int × Int)} {x y : Int} (h : hf ps x = none) : hf (ps ++ [(x, y)]) = fun z => if z = x then some y else hf ps z := by
  funext z
  by_cases e : z = x
  · subst e
    rw [if_pos rfl]
    unfold hf
    rw [List.find?_append]
    have h1 : ps.find? (fun p => p.1 == z) = none := Option.map_eq_none_iff.1 h
    rw [h1]
    simp
  · rw [if_neg e]
    unfold hf
    rw [List.find?_append]
    have h1 : ([(x, y)] : List (Int × Int)).find? (fun p => p.1 == z) = none := by simp; exact fun h => e h.symm
    rw [h1]
    simp
theorem mem_allP {ws : List Wt} {n : Nat} {x y : Int} : (x, y) ∈ allP ws n ↔ ∃ j : Nat, j < n ∧ y = j ∧ x ∈ holdsW ws j := by
  unfold allP pairsOf
  constructor
  · intro h
    obtain ⟨j, hj, h2⟩ := List.mem_flatMap.1 h
    obtain ⟨z, hz, e⟩ := List.mem_map.1 h2
    cases e
    exact ⟨j, List.mem_range.1 hj, rfl, hz⟩
  · rintro ⟨j, hj, rfl, hx⟩
    exact List.mem_flatMap.2 ⟨j, List.mem_range.2 hj, List.mem_map.2 ⟨x, hx, rfl⟩⟩
theorem nodup_fst {ps : List (Int × Int)} (h : (ps.map Prod.fst).Nodup) {x y z : Int} (h1 : (x, y) ∈ ps) (h2 : (x, z) ∈ ps) : y = z := by
  induction ps with
  | nil => simp at h1
  | cons p t ih =>
    rw [List.map_cons, List.nodup_cons] at h
    rcases List.mem_cons.1 h1 with e1 | m1
    · rcases List.mem_cons.1 h2 with e2 | m2
      · have := e1.trans e2.symm; cases this; rfl
      · exact absurd (List.mem_map.2 ⟨(x, z), m2, by rw [← e1]⟩) h.1
    · rcases List.mem_cons.1 h2 with e2 | m2
      · exact absurd (List.mem_map.2 ⟨(x, y), m1, by rw [← e2]⟩) h.1
      · exact ih h.2 m1 m2
theorem hf_all {ws : List Wt} {n : Nat} (h : okP (allP ws n)) {x y : Int} : hf (allP ws n) x = some y ↔ ∃ j : Nat, j < n ∧ y = j ∧ x ∈ holdsW ws j := by
  constructor
  · exact fun e => mem_allP.1 (hf_mem e)
  · intro e
    have hm := mem_allP.2 e
    cases hz : hf (allP ws n) x with
    | none => exact absurd rfl (hf_none.1 hz _ hm)
    | some z => rw [nodup_fst h.2 (hf_mem hz) hm]
/-- Who waits for whom, of the first k. -/
def wf (ws : List Wt) (k : Nat) (x : Int) : Option Int := if 0 ≤ x ∧ x < k then hf (allP ws ws.length) (wantsW ws x.toNat) else none
theorem wf_none (ws : List Wt) : wf ws 0 = fun _ => none := by
  funext x; unfold wf; rw [if_neg (by omega)]
theorem wf_no {ws : List Wt} {k : Nat} (h : hf (allP ws ws.length) (wantsW ws k) = none) : wf ws (k + 1) = wf ws k := by
  funext x
  unfold wf
  by_cases e : x = k
  · subst e; rw [if_pos (by omega), if_neg (by omega)]; exact h
  · by_cases e2 : 0 ≤ x ∧ x < k
    · rw [if_pos (by omega), if_pos e2]
    · rw [if_neg (by omega), if_neg e2]
theorem wf_yes {ws : List Wt} {k : Nat} {y : Int} (h : hf (allP ws ws.length) (wantsW ws k) = some y) : wf ws (k + 1) = fun x => if x = (k : Int) then some y else wf ws k x := by
  funext x
  unfold wf
  by_cases e : x = k
  · subst e; rw [if_pos (by omega), if_pos rfl]; exact h
  · rw [if_neg e]
    by_cases e2 : 0 ≤ x ∧ x < k
    · rw [if_pos (by omega), if_pos e2]
    · rw [if_neg (by omega), if_neg e2]
/-- A set of keys each of whose values is in it. -/
def ClosedF (f : Int → Option Int) (S : Int → Prop) : Prop := ∀ x, S x → ∃ y, f x = some y ∧ S y
/-- What deleting has left of f0: less, and whatever is closed. -/
structure Left (f0 f : Int → Option Int) : Prop where
  le : ∀ x y, f x = some y → f0 x = some y
  keeps : ∀ S, ClosedF f0 S → ∀ x, S x → f x = f0 x
theorem Left.refl (f : Int → Option Int) : Left f f := ⟨fun _ _ h => h, fun _ _ _ _ => rfl⟩
theorem Left.trans {f0 f g : Int → Option Int} (h : Left f0 f) (k : Left f g) : Left f0 g :=
  ⟨fun x y e => h.le x y (k.le x y e), fun S hS x hx => by
    have hS' : ClosedF f S := fun z hz => by
      obtain ⟨y, e, hy⟩ := hS z hz
      exact ⟨y, by rw [h.keeps S hS z hz]; exact e, hy⟩
    rw [k.keeps S hS' x hx, h.keeps S hS x hx]⟩
def del (f : Int → Option Int) (k : Int) : Int → Option Int := fun x => if x = k then none else f x
theorem Left.del {f : Int → Option Int} {k y : Int} (h1 : f k = some y) (h2 : f y = none) : Left f (del f k) := by
  refine ⟨fun x z e => ?_, fun S hS x hx => ?_⟩
  · unfold Lk.del at e
    split at e
    · cases e
    · exact e
  · unfold Lk.del
    split
    · next e =>
      subst e
      obtain ⟨z, e1, hz⟩ := hS x hx
      rw [h1] at e1
      cases e1
      obtain ⟨z2, e2, -⟩ := hS y hz
      rw [h2] at e2
      cases e2
    · rfl
/-- What is left, once nothing more can go, are those that are stuck. -/
theorem left_dead {ws : List Wt} (hok : okW ws) {f : Int → Option Int} (h : Left (wf ws ws.length) f) (hc : ∀ x y, f x = some y → (f y).isSome = true) (i : Nat) (hi : i < ws.length) : (f i).isSome = true ↔ Dead ws i := by
  have key : ∀ (x : Int) (y : Int), wf ws ws.length x = some y → ∃ a b : Nat, x = a ∧ y = b ∧ a < ws.length ∧ b < ws.length ∧ wantsW ws a ∈ holdsW ws b := by
    intro x y e
    unfold wf at e
    split at e
    · next hx =>
      obtain ⟨j, hj, rfl, hm⟩ := (hf_all hok.1).1 e
      exact ⟨x.toNat, j, by omega, rfl, by omega, hj, hm⟩
    · cases e
  constructor
  · intro hs
    refine ⟨fun a => a < ws.length ∧ (f a).isSome = true, fun a ha => ⟨ha.1, ?_⟩, hi, hs⟩
    obtain ⟨y, hy⟩ := Option.isSome_iff_exists.1 ha.2
    obtain ⟨a', b, e1, e2, -, hb, hm⟩ := key a y (h.le _ _ hy)
    obtain rfl : a = a' := by omega
    exact ⟨b, ⟨hb, by rw [← e2]; exact hc _ _ hy⟩, hm⟩
  · rintro ⟨S, hS, hSi⟩
    have hcl : ClosedF (wf ws ws.length) (fun x => ∃ a : Nat, x = a ∧ S a) := by
      rintro x ⟨a, rfl, ha⟩
      obtain ⟨h1, j, hj, hm⟩ := hS a ha
      refine ⟨j, ?_, j, rfl, hj⟩
      unfold wf
      rw [if_pos (by omega)]
      exact (hf_all hok.1).2 ⟨j, (hS j hj).1, rfl, by simpa using hm⟩
    rw [h.keeps _ hcl i ⟨i, rfl, hSi⟩]
    obtain ⟨y, e, -⟩ := hcl i ⟨i, rfl, hSi⟩
    rw [e]; rfl
end Go.Proofs.Ythbabhmpkniliaa.Lk
