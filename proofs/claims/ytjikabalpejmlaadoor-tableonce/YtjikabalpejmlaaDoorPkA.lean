/-
  Contracts of layer 6 (packed): of every argument in its kind's bounds, in every world that holds the table of places.
-/
import Derived.Test.YtjikabalpejmlaaDoorPkM
import Derived.Test.YtjikabalpejmlaaDoorSl
import Derived.Test.YtjikabalpejmlaaDoorRows
import Derived.WalkKit
import Derived.ProofKit
import Derived.OpenShut
import Derived.BigQuiet
import Derived.Deep.QuietTactic
import Derived.WalkSmall
import Derived.Lib.Hide
import Derived.Lib.SmallJoins
import Derived.Handy
import Derived.Laws.NewDeep
import Derived.Laws.ResultCell
namespace Go.Proofs.YtjikabalpejmlaaDoor
open Go.RowKit Pk

theorem pkU_of_wf {n : Int} (h : (Lit.int .u64 n).wf = true) : U n := by
  have := bounds_u64 h
  unfold U; omega

def places : List (Int × Int) := [(0, 7), (3, 63), (9, 1), (10, 65535), (26, 4294967295)]
/-- The table of places lies in the world. -/
def Tab (w : World) : Prop := ∀ i, i < 5 → w.cell? ⟨0, 2 * i, none⟩ = some (.int .u64 (places.getD i (0, 0)).1) ∧ w.cell? ⟨0, 2 * i + 1, none⟩ = some (.int .i64 (places.getD i (0, 0)).2)
theorem Tab.below {w w' : World} (h : Tab w) (hb : Below w.heap.size w w') : Tab w' := fun i hi => by
  rw [hb.cell (p := ⟨0, 2 * i, none⟩) (World.block_lt_of_cell? w ⟨0, 2 * i, none⟩ (h i hi).1), hb.cell (p := ⟨0, 2 * i + 1, none⟩) (World.block_lt_of_cell? w ⟨0, 2 * i + 1, none⟩ (h i hi).2)]
  exact h i hi

set_option maxHeartbeats 1000000 in
theorem readK_q (w : Int) (hw : U w) (W : World) (hT : Tab W) :
    Calls Tryd.prog 58 #[.int .u64 w, .int .i64 0] W fun e w' => e = .returned (.int .i64 (K w)) ∧ ∃ q, w' = W.drewN q := by
  have h0 : W.cell? ⟨0, 0, none⟩ = some (.int .u64 0) := (hT 0 (by omega)).1
  have h1 : W.cell? ⟨0, 1, none⟩ = some (.int .i64 7) := (hT 0 (by omega)).2
  clear hT
  have HB : Hid (wrap64 (bits .and .u64 (w) 7) = K w) := by
    refine Lib.hid ?_
    rw [and_int 3 (w) 7 (by unfold U at *; omega) (by decide) (by decide), IntWalk.wrap64_in _ (by omega)]; rfl
  have hw0 : 0 ≤ w := hw.1
  have hw1 : w < 18446744073709551616 := hw.2
  clear hw
  go_enter Tryd.func58, Tryd.ntmps58
  go_wp2
  go_quiet (fail)
  go_wp2
  go_ret
  exact ⟨by rw [← HB.out]; rfl, _, rfl⟩

set_option maxHeartbeats 1000000 in
theorem readC_q (w : Int) (hw : U w) (W : World) (hT : Tab W) :
    Calls Tryd.prog 58 #[.int .u64 w, .int .i64 1] W fun e w' => e = .returned (.int .i64 (C w)) ∧ ∃ q, w' = W.drewN q := by
  have h0 : W.cell? ⟨0, 2, none⟩ = some (.int .u64 3) := (hT 1 (by omega)).1
  have h1 : W.cell? ⟨0, 3, none⟩ = some (.int .i64 63) := (hT 1 (by omega)).2
  clear hT
  have HB : Hid (wrap64 (bits .and .u64 (w / 8) 63) = C w) := by
    refine Lib.hid ?_
    rw [and_int 6 (w / 8) 63 (by unfold U at *; omega) (by decide) (by decide), IntWalk.wrap64_in _ (by omega)]; rfl
  have hw0 : 0 ≤ w := hw.1
  have hw1 : w < 18446744073709551616 := hw.2
  clear hw
  go_enter Tryd.func58, Tryd.ntmps58
  go_wp2
  go_quiet (fail)
  go_wp2
  go_ret
  exact ⟨by rw [← HB.out]; rfl, _, rfl⟩

def Bn (w : Int) : Int := w / 512 % 2
set_option maxHeartbeats 1000000 in
theorem readB_q (w : Int) (hw : U w) (W : World) (hT : Tab W) :
    Calls Tryd.prog 58 #[.int .u64 w, .int .i64 2] W fun e w' => e = .returned (.int .i64 (Bn w)) ∧ ∃ q, w' = W.drewN q := by
  have h0 : W.cell? ⟨0, 4, none⟩ = some (.int .u64 9) := (hT 2 (by omega)).1
  have h1 : W.cell? ⟨0, 5, none⟩ = some (.int .i64 1) := (hT 2 (by omega)).2
  clear hT
  have HB : Hid (wrap64 (bits .and .u64 (w / 512) 1) = Bn w) := by
    refine Lib.hid ?_
    rw [and_int 1 (w / 512) 1 (by unfold U at *; omega) (by decide) (by decide), IntWalk.wrap64_in _ (by omega)]; rfl
  have hw0 : 0 ≤ w := hw.1
  have hw1 : w < 18446744073709551616 := hw.2
  clear hw
  go_enter Tryd.func58, Tryd.ntmps58
  go_wp2
  go_quiet (fail)
  go_wp2
  go_ret
  exact ⟨by rw [← HB.out]; rfl, _, rfl⟩

set_option maxHeartbeats 1000000 in
theorem readS_q (w : Int) (hw : U w) (W : World) (hT : Tab W) :
    Calls Tryd.prog 58 #[.int .u64 w, .int .i64 3] W fun e w' => e = .returned (.int .i64 (S w)) ∧ ∃ q, w' = W.drewN q := by
  have h0 : W.cell? ⟨0, 6, none⟩ = some (.int .u64 10) := (hT 3 (by omega)).1
  have h1 : W.cell? ⟨0, 7, none⟩ = some (.int .i64 65535) := (hT 3 (by omega)).2
  clear hT
  have HB : Hid (wrap64 (bits .and .u64 (w / 1024) 65535) = S w) := by
    refine Lib.hid ?_
    rw [and_int 16 (w / 1024) 65535 (by unfold U at *; omega) (by decide) (by decide), IntWalk.wrap64_in _ (by omega)]; rfl
  have hw0 : 0 ≤ w := hw.1
  have hw1 : w < 18446744073709551616 := hw.2
  clear hw
  go_enter Tryd.func58, Tryd.ntmps58
  go_wp2
  go_quiet (fail)
  go_wp2
  go_ret
  exact ⟨by rw [← HB.out]; rfl, _, rfl⟩

set_option maxHeartbeats 1000000 in
theorem readG_q (w : Int) (hw : U w) (W : World) (hT : Tab W) :
    Calls Tryd.prog 58 #[.int .u64 w, .int .i64 4] W fun e w' => e = .returned (.int .i64 (G w)) ∧ ∃ q, w' = W.drewN q := by
  have h0 : W.cell? ⟨0, 8, none⟩ = some (.int .u64 26) := (hT 4 (by omega)).1
  have h1 : W.cell? ⟨0, 9, none⟩ = some (.int .i64 4294967295) := (hT 4 (by omega)).2
  clear hT
  have HB : Hid (wrap64 (bits .and .u64 (w / 67108864) 4294967295) = G w) := by
    refine Lib.hid ?_
    rw [and_int 32 (w / 67108864) 4294967295 (by unfold U at *; omega) (by decide) (by decide), IntWalk.wrap64_in _ (by omega)]; rfl
  have hw0 : 0 ≤ w := hw.1
  have hw1 : w < 18446744073709551616 := hw.2
  clear hw
  go_enter Tryd.func58, Tryd.ntmps58
  go_wp2
  go_quiet (fail)
  go_wp2
  go_ret
  exact ⟨by rw [← HB.out]; rfl, _, rfl⟩

theorem kind_q (w : Int) (hw : U w) (W : World) (hT : Tab W) :
    Calls Tryd.prog 47 #[.int .u64 w] W fun e w' => e = .returned (.int .i64 (K w)) ∧ ∃ q, w' = W.drewN q := by
  go_enter Tryd.func47, Tryd.ntmps47
  go_wp2_with fail
  refine (readK_q w hw _ hT).mono ?_
  rintro e' w' ⟨rfl, q, rfl⟩
  go_wp2
  go_ret
  exact ⟨rfl, _, rfl⟩

theorem cpu_q (w : Int) (hw : U w) (W : World) (hT : Tab W) :
    Calls Tryd.prog 71 #[.int .u64 w] W fun e w' => e = .returned (.int .i64 (C w)) ∧ ∃ q, w' = W.drewN q := by
  go_enter Tryd.func71, Tryd.ntmps71
  go_wp2_with fail
  refine (readC_q w hw _ hT).mono ?_
  rintro e' w' ⟨rfl, q, rfl⟩
  go_wp2
  go_ret
  exact ⟨rfl, _, rfl⟩

theorem gen_q (w : Int) (hw : U w) (W : World) (hT : Tab W) :
    Calls Tryd.prog 42 #[.int .u64 w] W fun e w' => e = .returned (.int .i64 (G w)) ∧ ∃ q, w' = W.drewN q := by
  go_enter Tryd.func42, Tryd.ntmps42
  go_wp2_with fail
  refine (readG_q w hw _ hT).mono ?_
  rintro e' w' ⟨rfl, q, rfl⟩
  go_wp2
  go_ret
  exact ⟨rfl, _, rfl⟩

theorem Tab.drew {w : World} (h : Tab w) (n : Nat) : Tab (w.drewN n) := h.below (below_drewN (Below.refl _ _) n)
/-- What only draws turns nothing. -/
theorem drawn_below {f : FuncId} {args : Array Value} {W : World} {v : Value} (h : Calls Tryd.prog f args W fun e w' => e = .returned v ∧ ∃ q, w' = W.drewN q) :
    Calls Tryd.prog f args W fun e w' => e = .returned v ∧ Below W.heap.size W w' :=
  h.mono fun _ _ ⟨he, q, hw⟩ => ⟨he, by rw [hw]; exact below_drewN (Below.refl _ _) q⟩
theorem readK (w : Int) (hw : U w) (W : World) (hT : Tab W) :
    Calls Tryd.prog 58 #[.int .u64 w, .int .i64 0] W fun e w' => e = .returned (.int .i64 (K w)) ∧ Below W.heap.size W w' := drawn_below (readK_q w hw W hT)
theorem readC (w : Int) (hw : U w) (W : World) (hT : Tab W) :
    Calls Tryd.prog 58 #[.int .u64 w, .int .i64 1] W fun e w' => e = .returned (.int .i64 (C w)) ∧ Below W.heap.size W w' := drawn_below (readC_q w hw W hT)
theorem readB (w : Int) (hw : U w) (W : World) (hT : Tab W) :
    Calls Tryd.prog 58 #[.int .u64 w, .int .i64 2] W fun e w' => e = .returned (.int .i64 (Bn w)) ∧ Below W.heap.size W w' := drawn_below (readB_q w hw W hT)
theorem readS (w : Int) (hw : U w) (W : World) (hT : Tab W) :
    Calls Tryd.prog 58 #[.int .u64 w, .int .i64 3] W fun e w' => e = .returned (.int .i64 (S w)) ∧ Below W.heap.size W w' := drawn_below (readS_q w hw W hT)
theorem readG (w : Int) (hw : U w) (W : World) (hT : Tab W) :
    Calls Tryd.prog 58 #[.int .u64 w, .int .i64 4] W fun e w' => e = .returned (.int .i64 (G w)) ∧ Below W.heap.size W w' := drawn_below (readG_q w hw W hT)
theorem kind_any (w : Int) (hw : U w) (W : World) (hT : Tab W) :
    Calls Tryd.prog 47 #[.int .u64 w] W fun e w' => e = .returned (.int .i64 (K w)) ∧ Below W.heap.size W w' := drawn_below (kind_q w hw W hT)
theorem cpu_any (w : Int) (hw : U w) (W : World) (hT : Tab W) :
    Calls Tryd.prog 71 #[.int .u64 w] W fun e w' => e = .returned (.int .i64 (C w)) ∧ Below W.heap.size W w' := drawn_below (cpu_q w hw W hT)
theorem gen_any (w : Int) (hw : U w) (W : World) (hT : Tab W) :
    Calls Tryd.prog 42 #[.int .u64 w] W fun e w' => e = .returned (.int .i64 (G w)) ∧ Below W.heap.size W w' := drawn_below (gen_q w hw W hT)

/-- Bit as a number. -/
def b01 (b : Bool) : Int := if b then 1 else 0
set_option maxHeartbeats 1000000 in
theorem split_any (k c : Int) (b : Bool) (s g : Int) (W : World) :
    Calls Tryd.prog 83 #[.agg #[.int .i64 k, .int .i64 c, .bool b, .int .i64 s, .int .i64 g]] W fun e w' => e = .returned (.agg #[.int .i64 k, .int .i64 c, .int .i64 (b01 b), .int .i64 s, .int .i64 g]) ∧ Below W.heap.size W w' := by
  cases b
  · go_enter Tryd.func83, Tryd.ntmps83
    go_wp2
    go_returns
    exact ⟨rfl, by go_grown⟩
  · go_enter Tryd.func83, Tryd.ntmps83
    go_wp2
    go_returns
    exact ⟨rfl, by go_grown⟩
end Go.Proofs.YtjikabalpejmlaaDoor
