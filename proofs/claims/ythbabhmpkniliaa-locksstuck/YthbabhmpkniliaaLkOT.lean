/-
  Two lists of the call's own that grow by turns.
-/
import Derived.Test.YthbabhmpkniliaaLkOP
import Derived.Test.YthbabhmpkniliaaLkI
namespace Go.Proofs.Ythbabhmpkniliaa
open Go.RowKit Go.ChangeAt Go.ChangeShapes Go.WideShapes Lk

structure Two (B : Nat) (W wr : World) (x y : Value) (xs ys : List Int) : Prop where
  ox : Own .i64 wr B 3 x xs
  oy : Own .i64 wr B 3 y ys
  ne : x.ownBlock = none ∨ x.ownBlock ≠ y.ownBlock
  b : Below B W wr
  s : B ≤ wr.heap.size

theorem Two.nil {B : Nat} {W wr : World} (hb : Below B W wr) (hs : B ≤ wr.heap.size) : Two B W wr (.slice none 0 0) (.slice none 0 0) [] [] :=
  ⟨Own.nil _ _ _ _, Own.nil _ _ _ _, .inl rfl, hb, hs⟩
theorem Two.flip {B : Nat} {W wr : World} {x y : Value} {xs ys : List Int} (h : Two B W wr x y xs ys) : Two B W wr y x ys xs :=
  ⟨h.oy, h.ox, by
    rcases h.ne with e | e
    · cases e2 : y.ownBlock with
      | none => exact .inl rfl
      | some r => exact .inr (by rw [e]; intro h; cases h)
    · exact .inr (fun h => e h.symm), h.b, h.s⟩
theorem Two.below {B : Nat} {W wr w2 : World} {x y : Value} {xs ys : List Int} (h : Two B W wr x y xs ys) (hb : Below wr.heap.size wr w2) : Two B W w2 x y xs ys :=
  ⟨h.ox.below hb, h.oy.below hb, h.ne, h.b.trans (hb.mono h.s), Nat.le_trans h.s hb.size⟩
theorem Two.push {B : Nat} {W wr w2 : World} {x x' y : Value} {xs ys zs : List Int} (h : Two B W wr x y xs ys) (hO : Own .i64 w2 B 3 x' zs) (hg : wr.grownBy w2 x.ownBlock)
    (hloc : x'.ownBlock = x.ownBlock ∨ ∃ r, x'.ownBlock = some r ∧ wr.heap.size ≤ r) : Two B W w2 x' y zs ys := by
  refine ⟨hO, ?_, ?_, h.b.grown hg h.s (fun r hr => h.ox.lt r hr), Nat.le_trans h.s hg.size⟩
  · exact h.oy.apart hg h.flip.ne
  · rcases hloc with e | ⟨r, e, hr⟩
    · rw [e]; exact h.ne
    · refine .inr ?_
      rw [e]
      intro h2
      have := (World.ownsRow.lt h.oy r h2.symm).2
      omega

/-- The locks met, and their owners' numbers. -/
def metL (ws : List Wt) (k q : Nat) : List Int := (allP ws k ++ pairsOf k ((holdsW ws k).take q)).map Prod.fst
def upL (k : Nat) : List Int := (List.range k).map Int.ofNat
theorem metL_mem {ps : List (Int × Int)} {x : Int} : x ∈ ps.map Prod.fst ↔ hf ps x ≠ none := by
  rw [Ne, hf_none, List.mem_map]
  constructor
  · rintro ⟨p, hp, rfl⟩ h
    exact h p hp rfl
  · intro h
    refine Classical.byContradiction fun hno => h fun p hp e => hno ⟨p, hp, e⟩
theorem upL_succ (k : Nat) : upL (k + 1) = upL k ++ [(k : Int)] := by unfold upL; rw [List.range_succ, List.map_append]; rfl
end Go.Proofs.Ythbabhmpkniliaa
