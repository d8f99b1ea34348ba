/-
  Contracts of layer 4's small functions (bit, All, Has, With, Without, Of) and of math/bits.TrailingZeros64, which reads its table: of every argument in its kind's bounds.
-/
import Derived.Test.YtnjbcblhciblcaaMskM
import Derived.Test.YtnjbcblhciblcaaSl
import Derived.Test.YtnjbcblhciblcaaRows
import Derived.RangeFuncNested
import Derived.RangeFuncBound
import Derived.RangeFuncCalls
import Derived.RangeFuncLeaves
import Derived.Shelf.Abstract
import Derived.Shelf.RegionOpen
import Derived.WalkKit
import Derived.OwnWalkIn
import Derived.TacticsInMore
import Derived.LoopNIn
import Derived.LoopIn
import Derived.WalkSpells
import Derived.WalkLawsBesides
import Derived.OpenShut
import Derived.Lib.Hide
namespace Go.Proofs.Ytnjbcblhciblcaa
open Go.RowKit Go.Shelf Mk
attribute [local go_sem] Oper.semAt_some

theorem V_of_wf {n : Int} (h : (Lit.int .u64 n).wf = true) : ∃ x : Nat, n = (x : Int) ∧ V x := by
  have := bounds_u64 h
  exact ⟨n.toNat, by omega, by unfold V; omega⟩

/-- The place of the table that is read of x: the lowest bit's. -/
def place (x : Nat) : Nat := 2 ^ Lib.ctz 64 x * 285870213051353865 % 18446744073709551616 / 288230376151711744
theorem place_reads (x : Nat) (hx : V x) (h0 : x ≠ 0) : place x < 64 ∧ Lib.deBruijn64tab.getD (place x) 0 = Lib.ctz 64 x := Lib.deBruijn64_at _ (ctz_lt x hx h0)
theorem place_walk (x : Nat) (hx : V x) (h0 : x ≠ 0) : IntKind.u64.wrap (bits .and .u64 (x : Int) (IntKind.u64.wrap (-(x : Int))) * 285870213051353865) / 288230376151711744 = (place x : Nat) := by
  have hlow := (Lib.lowest_bit 64 x h0 ((V_pow x).1 hx)).1
  have hn : (2 : Nat) ^ 64 = 18446744073709551616 := by decide
  rw [hn] at hlow
  have e : IntKind.u64.wrap (-(x : Int)) = ((18446744073709551616 - x : Nat) : Int) := by rw [IntKind.wrap_u64]; unfold V at hx; omega
  rw [e, bits_and_u64_nat x _ hx (by omega), hlow, IntKind.wrap_u64]
  unfold place
  generalize 2 ^ Lib.ctz 64 x = p
  omega

theorem bit_walk (k : Nat) (h : k < 64) : IntKind.u64.wrap (2 ^ k) = (bt (k : Int) : Nat) := by
  have := V_two_pow k h
  have e : (2 : Int) ^ k = ((2 ^ k : Nat) : Int) := by simp
  rw [bt_at k h, e, IntKind.wrap_u64]; unfold V at this
  generalize 2 ^ k = p at *
  omega

set_option maxHeartbeats 400000 in
theorem bit_any (c : Int) (w : World) :
    Calls Try.prog 33 #[.int .i64 c] w fun e w' => e = .returned (.int .u64 (bt c : Nat)) ∧ w = w' := by
  by_cases h0 : c < 0
  · rw [bt_no c (.inl h0)]
    go_enter Try.func33, Try.ntmps33
    go_wp2
    go_ret
    exact ⟨rfl, rfl⟩
  · by_cases h1 : 64 ≤ c
    · rw [bt_no c (.inr h1)]
      go_enter Try.func33, Try.ntmps33
      go_wp2
      go_ret
      exact ⟨rfl, rfl⟩
    · obtain ⟨k, rfl⟩ : ∃ k : Nat, c = (k : Int) := ⟨c.toNat, by omega⟩
      have hk : k < 64 := by omega
      have HB : Hid (IntKind.u64.wrap (2 ^ k) = (bt (k : Int) : Nat)) := bit_walk k hk
      go_enter Try.func33, Try.ntmps33
      go_wp2
      go_ret
      exact ⟨by rw [HB.out]; rfl, rfl⟩

theorem all_walk (k : Nat) : IntKind.u64.wrap (IntKind.u64.wrap (2 ^ min k 64) - 1) = (allM (k : Int) : Nat) := by
  have ha : allM (k : Int) = 2 ^ min k 64 - 1 := by unfold allM; rw [if_neg (by omega)]; simp
  have h1 : 2 ^ min k 64 ≤ 2 ^ 64 := Nat.pow_le_pow_right (by omega) (by omega)
  have h2 : 0 < 2 ^ min k 64 := Nat.two_pow_pos _
  have e : (2 : Int) ^ min k 64 = ((2 ^ min k 64 : Nat) : Int) := by simp
  rw [ha, e, IntKind.wrap_u64, IntKind.wrap_u64]
  generalize 2 ^ min k 64 = p at *
  omega

set_option maxHeartbeats 400000 in
theorem has_any (x : Nat) (hx : V x) (c : Int) (w : World) :
    Calls Try.prog 31 #[.int .u64 x, .int .i64 c] w fun e w' => e = .returned (.bool (has x c)) ∧ w = w' := by
  have hb := V_bt c
  have HE : Hid ((((x &&& bt c : Nat) : Int) != 0) = has x c) := by unfold Hid; rw [← and_bt x hx c]; cases h : x &&& bt c <;> rfl
  have HA : Hid (bits .and .u64 (x : Int) (bt c : Nat) = ((x &&& bt c : Nat) : Int)) := bits_and_u64_nat x _ hx hb
  go_enter Try.func31, Try.ntmps31
  go_wp2_with fail
  refine (bit_any c _).mono ?_
  rintro e' w' ⟨rfl, rfl⟩
  go_wp2
  go_ret
  exact ⟨by rw [HA.out, HE.out]; rfl, rfl⟩

/-! ### Of -/
theorem of_step (zs : List Int) (k : Nat) (hk : k < zs.length) : orAll (zs.take (k + 1)) = orAll (zs.take k) ||| bt (zs.getD k 0) := by
  rw [← orAll_snoc, List.take_succ_eq_append_getElem hk]
  simp [List.getD, hk]
theorem good_step (zs : List Int) (k : Nat) (hk : k < zs.length) (h : goodL (zs.take k) = true) (h1 : isCpu (zs.getD k 0) = true) : goodL (zs.take (k + 1)) = true := by
  unfold goodL at *
  rw [List.take_succ_eq_append_getElem hk, List.all_append, h]
  have e : zs.getD k 0 = zs[k] := by simp [List.getD, hk]
  rw [e] at h1
  simp [h1]
theorem good_not (zs : List Int) (k : Nat) (hk : k < zs.length) (h1 : isCpu (zs.getD k 0) = false) : goodL zs = false := by
  unfold goodL
  rw [List.all_eq_false]
  have e : zs.getD k 0 = zs[k] := by simp [List.getD, hk]
  rw [e] at h1
  exact ⟨zs[k], List.getElem_mem hk, by simp [h1]⟩

end Go.Proofs.Ytnjbcblhciblcaa
