/-
  What the laws with loops share: Next with its answers named.
-/
import Derived.Test.YtijbnojcehjcaaaDoorLfU
import Derived.Deep.RegionWith
namespace Go.Proofs.YtijbnojcehjcaaaDoor
open Go.RowKit Go.Joins Go.Maps Pk Lf

theorem next_at {w ev cpu v' e' : Int} (hv : nxW w ev cpu = v') (he : nxE w ev cpu = e') (hw : U w) (hwf : (Lit.int .i64 ev).wf = true) (W : World) (hT : Tab W) :
    Calls Tryd.prog 10 #[.int .u64 w, .int .i64 ev, .int .i64 cpu] W fun e w' => e = .returned (.tuple #[.int .u64 v', .int .i64 e']) ∧ Below W.heap.size W w' := by
  subst hv he
  exact next_any w ev cpu hw hwf W hT
theorem drew_below' {w w' : World} (h : Below w.drew.heap.size w.drew w') : Below w.heap.size w w' := ⟨h.os, h.tape, h.output, h.size, h.block⟩
theorem tab_drew {w : World} (h : Tab w) : Tab w.drew := h
theorem lawake_at {w : Int} {r : Bool} (hr : awk w = r) (hw : U w) (W : World) (hT : Tab W) :
    Calls Tryd.prog 17 #[.int .u64 w] W fun e w' => e = .returned (.bool r) ∧ Below W.heap.size W w' := by
  subst hr
  exact lawake_any w hw W hT
theorem getD_wf {l : List (Int × Int)} (h : ∀ x ∈ l, (Lit.int .i64 x.1).wf = true ∧ (Lit.int .i64 x.2).wf = true) {k : Nat} (hk : k < l.length) : (Lit.int .i64 (l.getD k (0, 0)).1).wf = true := by
  have e : l.getD k (0, 0) = l[k] := by simp [List.getD, hk]
  rw [e]
  exact (h _ (List.getElem_mem hk)).1
end Go.Proofs.YtijbnojcehjcaaaDoor
