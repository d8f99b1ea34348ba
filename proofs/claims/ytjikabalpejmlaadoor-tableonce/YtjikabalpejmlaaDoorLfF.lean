/-
  Contracts of life's Play, of every word and every row of events.
-/
import Derived.Test.YtjikabalpejmlaaDoorLfE
import Derived.Test.YtjikabalpejmlaaDoorSlP
namespace Go.Proofs.YtjikabalpejmlaaDoor
open Go.RowKit Go.Joins Go.Maps Pk Lf

theorem take_snoc (l : List (Int × Int)) (k : Nat) (hk : k < l.length) : l.take (k + 1) = l.take k ++ [l.getD k (0, 0)] := by
  rw [List.take_succ_eq_append_getElem hk]
  simp [List.getD, hk]
theorem cut_at (l : List (Int × Int)) (k : Nat) (hk : k < l.length) : l = l.take k ++ l.getD k (0, 0) :: l.drop (k + 1) := by
  have e : l.getD k (0, 0) = l[k] := by simp [List.getD, hk]
  rw [e, ← List.drop_eq_getElem_cons hk, List.take_append_drop]
theorem pl_step {w : Int} {l : List (Int × Int)} {k : Nat} {v : Int} (hk : k < l.length) (h : pl w (l.take k) = (v, k)) (hx : nxE v (l.getD k (0, 0)).1 (l.getD k (0, 0)).2 = 0) :
    pl w (l.take (k + 1)) = (nxW v (l.getD k (0, 0)).1 (l.getD k (0, 0)).2, k + 1) := by
  have hl : (l.take k).length = k := by rw [List.length_take]; omega
  have := pl_snoc (a := l.take k) (x := l.getD k (0, 0)) (by rw [hl]; exact h) hx
  rw [take_snoc l k hk, this, hl]
theorem pl_end {w : Int} {l : List (Int × Int)} {k : Nat} {v : Int} (hk : k < l.length) (h : pl w (l.take k) = (v, k)) (hx : nxE v (l.getD k (0, 0)).1 (l.getD k (0, 0)).2 ≠ 0) :
    pl w l = (v, k) := by
  have hl : (l.take k).length = k := by rw [List.length_take]; omega
  have := pl_stop (a := l.take k) (b := l.drop (k + 1)) (x := l.getD k (0, 0)) (by rw [hl]; exact h) hx
  rw [hl, ← cut_at l k hk] at this
  exact this

end Go.Proofs.YtjikabalpejmlaaDoor
