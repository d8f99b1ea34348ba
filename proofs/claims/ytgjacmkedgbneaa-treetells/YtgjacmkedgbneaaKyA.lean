/-
  Contracts of turn.Lag and key.Less, of turnspitref03.Lag and turnspitref08.Less, of every argument; what a call that only draws and lays leaves of the world.
-/
import Derived.Test.YtgjacmkedgbneaaSlK
import Derived.Test.YtgjacmkedgbneaaRows
import Derived.WalkKit
import Derived.ProofKit
import Derived.OpenShut
import Derived.Lib.Hide
import Derived.Deep.QuietTactic
import Derived.BigQuiet
import Derived.WalkSmall
import Derived.Sort.Grow
namespace Go.Proofs.Ytgjacmkedgbneaa
open Go.RowKit Go.Sort Wd Tn Ky

/-- Draws were made and blocks laid, nothing else. -/
def Gr (W w' : World) : Prop := ∃ q os, w' = grow (W.drewN q) os
theorem Gr.refl (W : World) : Gr W W := ⟨0, #[], by rw [grow_empty]; rfl⟩
theorem Gr.drew (W : World) (q : Nat) : Gr W (W.drewN q) := ⟨q, #[], by rw [grow_empty]⟩
theorem Gr.alloc (W : World) (o : Obj) : Gr W (W.alloc o) := ⟨0, #[o], alloc_eq_grow W o⟩
theorem Gr.trans {a b c : World} (h : Gr a b) (k : Gr b c) : Gr a c := by
  obtain ⟨q, os, rfl⟩ := h
  obtain ⟨q', os', rfl⟩ := k
  refine ⟨q + q', os ++ os', ?_⟩
  show grow (grow ((a.drewN q).drewN q') os) os' = _
  rw [grow_grow, World.drewN_drewN]
theorem Gr.below {W w' : World} (h : Gr W w') : Below W.heap.size W w' := by
  obtain ⟨q, os, rfl⟩ := h
  refine ⟨rfl, rfl, rfl, by simp [grow], fun i hi => ?_⟩
  show ((W.drewN q).heap ++ os)[i]? = _
  rw [Array.getElem?_append_left (by show i < W.heap.size; omega)]
  rfl

theorem Gr.cell {W w' : World} (h : Gr W w') {p : Addr} {v : Value} (hp : W.cell? p = some v) : w'.cell? p = some v := (h.below.cell (World.block_lt_of_cell? W p hp)).trans hp

theorem lag_any (v m : Int) (w : World) :
    Calls Try.prog 77 #[.int .u64 v, .int .u64 m] w fun e w' => e = .returned (.int .i64 (lagN v m)) ∧ w = w' := by
  have H : Hid (wrap64 (IntKind.u64.wrap (v - m)) = lagN v m) := Lib.hid ((IntWalk.i64_left _).symm.trans (lag_wrap v m))
  go_enter Try.func77, Try.ntmps77
  go_wp2
  go_ret
  exact ⟨by rw [← H.out]; rfl, rfl⟩

theorem lag_q (v m : Int) (w : World) :
    Calls Try.prog 77 #[.int .u64 v, .int .u64 m] w fun e w' => e = .returned (.int .i64 (lagN v m)) ∧ ∃ q, w' = w.drewN q :=
  (lag_any v m w).mono fun _ _ ⟨he, hw⟩ => ⟨he, 0, hw.symm⟩

theorem rlag_any (v m : Int) (w : World) :
    Calls Try.prog 68 #[.int .u64 v, .int .u64 m] w fun e w' => e = .returned (.int .i64 (lagN v m)) ∧ w = w' := by
  generalize hx : IntKind.u64.wrap (v - m) = x
  have hu : U x := hx ▸ U_wrap _
  have hl : lagN v m = if x < 9223372036854775808 then x else x - 18446744073709551616 := by
    rw [← lag_wrap, hx, wrapI]; unfold U M at *; split <;> omega
  unfold U M at hu
  rw [hl]
  by_cases h : x < 9223372036854775808
  · rw [if_pos h]
    go_enter Try.func68, Try.ntmps68
    go_wp2
    go_ret
    exact ⟨rfl, rfl⟩
  · rw [if_neg h]
    have HE : Hid (-1 - (18446744073709551615 - x) = x - 18446744073709551616) := Lib.hid (by omega)
    go_enter Try.func68, Try.ntmps68
    go_wp2
    go_ret
    exact ⟨by rw [← HE.out]; rfl, rfl⟩

set_option maxHeartbeats 1000000 in
theorem less_gr (m : Int) (a b : K) (W : World) :
    Calls Try.prog 64 #[.int .u64 m, .agg #[.int .u64 a.1, .int .i64 a.2], .agg #[.int .u64 b.1, .int .i64 b.2]] W fun e w' => e = .returned (.bool (ltK m a b)) ∧ Gr W w' := by
  have hA := fun w => lag_q a.1 m w
  have hB := fun w => lag_q b.1 m w
  obtain ⟨r, hr⟩ : ∃ r, ltK m a b = r := ⟨_, rfl⟩
  have HR : Hid (ltK m a b = r) := Lib.hid hr
  rw [hr]
  clear hr
  generalize ha : lagN a.1 m = x at hA
  generalize hb : lagN b.1 m = y at hB
  have HX : Hid (ltK m a b = decide (x < y ∨ (x = y ∧ a.2 < b.2))) := Lib.hid (by unfold ltK; rw [ha, hb])
  clear ha hb
  by_cases hxy : x = y
  · go_enter Try.func64, Try.ntmps64
    go_wp2
    go_quiet (first | (go_at_call 77; first | exact Calls.quiet_of (hA _) | exact Calls.quiet_of (hB _)))
    go_wp2
    go_ret
    exact ⟨by rw [← HR.out, HX.out]; simp [hxy], ((Gr.alloc _ _).trans (Gr.alloc _ _)).trans (Gr.drew _ _)⟩
  · go_enter Try.func64, Try.ntmps64
    go_wp2
    go_quiet (first | (go_at_call 77; first | exact Calls.quiet_of (hA _) | exact Calls.quiet_of (hB _)))
    go_wp2
    go_ret
    exact ⟨by rw [← HR.out, HX.out]; simp [hxy], ((Gr.alloc _ _).trans (Gr.alloc _ _)).trans (Gr.drew _ _)⟩

set_option maxHeartbeats 1000000 in
theorem rless_gr (m : Int) (a b : K) (W : World) :
    Calls Try.prog 37 #[.int .u64 m, .agg #[.int .u64 a.1, .int .i64 a.2], .agg #[.int .u64 b.1, .int .i64 b.2]] W fun e w' => e = .returned (.bool (ltK m a b)) ∧ Gr W w' := by
  have hA := fun w => rlag_any a.1 m w
  have hB := fun w => rlag_any b.1 m w
  obtain ⟨r, hr⟩ : ∃ r, ltK m a b = r := ⟨_, rfl⟩
  have HR : Hid (ltK m a b = r) := Lib.hid hr
  rw [hr]
  clear hr
  generalize ha : lagN a.1 m = x at hA
  generalize hb : lagN b.1 m = y at hB
  have HX : Hid (ltK m a b = decide (x < y ∨ (x = y ∧ a.2 < b.2))) := Lib.hid (by unfold ltK; rw [ha, hb])
  clear ha hb
  rcases Int.lt_trichotomy x y with hxy | hxy | hxy
  all_goals
    go_enter Try.func37, Try.ntmps37
    go_wp2_with fail
    refine (hA _).mono ?_
    rintro e' w1 ⟨rfl, rfl⟩
    go_wp2_with fail
    refine (hB _).mono ?_
    rintro e' w1 ⟨rfl, rfl⟩
    go_wp2
    go_ret
    refine ⟨?_, (Gr.alloc _ _).trans (Gr.alloc _ _)⟩
    rw [← HR.out, HX.out]
    first | (simp [hxy]; done) | (simp; omega)
end Go.Proofs.Ytgjacmkedgbneaa
