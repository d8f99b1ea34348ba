/-
  Contracts of layer 4's small functions (bit, All, Has, With, Without, Of) and of math/bits.TrailingZeros64, which reads its table: of every argument in its kind's bounds.
-/
import Derived.Test.YtjikabalpejmlaaDoorMskM
import Derived.Test.YtjikabalpejmlaaDoorSl
import Derived.Test.YtjikabalpejmlaaDoorRows
import Derived.RangeFuncNested
import Derived.RangeFuncBound
import Derived.RangeFuncCalls
import Derived.RangeFuncLeaves
import Derived.Shelf.Abstract
import Derived.Shelf.RegionOpen
import Derived.WalkKit
import Derived.OwnWalkIn
import Derived.TacticsInMore
import Derived.LoopNIn
import Derived.LoopIn
import Derived.WalkSpells
import Derived.WalkLawsBesides
import Derived.OpenShut
import Derived.Lib.Hide
namespace Go.Proofs.YtjikabalpejmlaaDoor
open Go.RowKit Go.Shelf Mk
attribute [local go_sem] Oper.semAt_some

theorem V_of_wf {n : Int} (h : (Lit.int .u64 n).wf = true) : ∃ x : Nat, n = (x : Int) ∧ V x := by
  have := bounds_u64 h
  exact ⟨n.toNat, by omega, by unfold V; omega⟩

/-- The table of math/bits lies in the world. -/
def TabM (w : World) : Prop := ∀ i, i < 64 → w.cell? ⟨1, i, none⟩ = some (.int .u8 (Lib.deBruijn64tab.getD i 0))
theorem TabM.below {w w' : World} (h : TabM w) (hb : Below w.heap.size w w') : TabM w' := fun i hi => by
  rw [hb.cell (p := ⟨1, i, none⟩) (World.block_lt_of_cell? w ⟨1, i, none⟩ (h i hi))]
  exact h i hi
theorem TabM.lt {w : World} (h : TabM w) : 1 < w.heap.size := World.block_lt_of_cell? w ⟨1, 0, none⟩ (h 0 (by omega))

/-- The place of the table that is read of x: the lowest bit's. -/
def place (x : Nat) : Nat := 2 ^ Lib.ctz 64 x * 285870213051353865 % 18446744073709551616 / 288230376151711744
theorem place_reads (x : Nat) (hx : V x) (h0 : x ≠ 0) : place x < 64 ∧ Lib.deBruijn64tab.getD (place x) 0 = Lib.ctz 64 x := Lib.deBruijn64_at _ (ctz_lt x hx h0)
theorem place_walk (x : Nat) (hx : V x) (h0 : x ≠ 0) : IntKind.u64.wrap (bits .and .u64 (x : Int) (IntKind.u64.wrap (-(x : Int))) * 285870213051353865) / 288230376151711744 = (place x : Nat) := by
  have hlow := (Lib.lowest_bit 64 x h0 ((V_pow x).1 hx)).1
  have hn : (2 : Nat) ^ 64 = 18446744073709551616 := by decide
  rw [hn] at hlow
  have e : IntKind.u64.wrap (-(x : Int)) = ((18446744073709551616 - x : Nat) : Int) := by rw [IntKind.wrap_u64]; unfold V at hx; omega
  rw [e, bits_and_u64_nat x _ hx (by omega), hlow, IntKind.wrap_u64]
  unfold place
  generalize 2 ^ Lib.ctz 64 x = p
  omega

set_option maxHeartbeats 1000000 in
/-- The function, where the place that it reads is j, and k stands there. -/
theorem tz_at (x j k : Nat) (w : World) (hj : j < 64) (hc : w.cell? ⟨1, j, none⟩ = some (.int .u8 k)) (hk : k < 64) (hz : ((x : Int) == 0) = false)
    (hp : IntKind.u64.wrap (bits .and .u64 (x : Int) (IntKind.u64.wrap (-(x : Int))) * 285870213051353865) / 288230376151711744 = (j : Int)) :
    Calls Tryd.prog 67 #[.int .u64 x] w fun e w' => e = .returned (.int .i64 k) ∧ w = w' := by
  go_enter Tryd.func67, Tryd.ntmps67
  go_wp2_with (simp only [hp])
  go_ret
  exact ⟨rfl, rfl⟩
theorem tz_any (x : Nat) (hx : V x) (h0 : x ≠ 0) (w : World) (hT : TabM w) :
    Calls Tryd.prog 67 #[.int .u64 x] w fun e w' => e = .returned (.int .i64 (Lib.ctz 64 x : Nat)) ∧ w = w' :=
  have hr := place_reads x hx h0
  tz_at x (place x) (Lib.ctz 64 x) w hr.1 (by have := hT _ hr.1; rwa [hr.2] at this) (ctz_lt x hx h0) (by simpa using h0) (place_walk x hx h0)

theorem bit_walk (k : Nat) (h : k < 64) : IntKind.u64.wrap (2 ^ k) = (bt (k : Int) : Nat) := by
  have := V_two_pow k h
  have e : (2 : Int) ^ k = ((2 ^ k : Nat) : Int) := by simp
  rw [bt_at k h, e, IntKind.wrap_u64]; unfold V at this
  generalize 2 ^ k = p at *
  omega

theorem all_walk (k : Nat) : IntKind.u64.wrap (IntKind.u64.wrap (2 ^ min k 64) - 1) = (allM (k : Int) : Nat) := by
  have ha : allM (k : Int) = 2 ^ min k 64 - 1 := by unfold allM; rw [if_neg (by omega)]; simp
  have h1 : 2 ^ min k 64 ≤ 2 ^ 64 := Nat.pow_le_pow_right (by omega) (by omega)
  have h2 : 0 < 2 ^ min k 64 := Nat.two_pow_pos _
  have e : (2 : Int) ^ min k 64 = ((2 ^ min k 64 : Nat) : Int) := by simp
  rw [ha, e, IntKind.wrap_u64, IntKind.wrap_u64]
  generalize 2 ^ min k 64 = p at *
  omega

set_option maxHeartbeats 400000 in
theorem all_any (n : Int) (w : World) :
    Calls Tryd.prog 35 #[.int .i64 n] w fun e w' => e = .returned (.int .u64 (allM n : Nat)) ∧ w = w' := by
  by_cases h0 : n < 0
  · have e : allM n = 0 := by unfold allM; rw [if_pos h0]
    rw [e]
    clear e
    go_enter Tryd.func35, Tryd.ntmps35
    go_wp2
    go_ret
    exact ⟨rfl, rfl⟩
  · obtain ⟨k, rfl⟩ : ∃ k : Nat, n = (k : Int) := ⟨n.toNat, by omega⟩
    go_enter Tryd.func35, Tryd.ntmps35
    go_wp2
    go_ret
    exact ⟨by rw [← all_walk]; rfl, rfl⟩

/-! ### Of -/
theorem of_step (zs : List Int) (k : Nat) (hk : k < zs.length) : orAll (zs.take (k + 1)) = orAll (zs.take k) ||| bt (zs.getD k 0) := by
  rw [← orAll_snoc, List.take_succ_eq_append_getElem hk]
  simp [List.getD, hk]
theorem good_step (zs : List Int) (k : Nat) (hk : k < zs.length) (h : goodL (zs.take k) = true) (h1 : isCpu (zs.getD k 0) = true) : goodL (zs.take (k + 1)) = true := by
  unfold goodL at *
  rw [List.take_succ_eq_append_getElem hk, List.all_append, h]
  have e : zs.getD k 0 = zs[k] := by simp [List.getD, hk]
  rw [e] at h1
  simp [h1]
theorem good_not (zs : List Int) (k : Nat) (hk : k < zs.length) (h1 : isCpu (zs.getD k 0) = false) : goodL zs = false := by
  unfold goodL
  rw [List.all_eq_false]
  have e : zs.getD k 0 = zs[k] := by simp [List.getD, hk]
  rw [e] at h1
  exact ⟨zs[k], List.getElem_mem hk, by simp [h1]⟩

end Go.Proofs.YtjikabalpejmlaaDoor
