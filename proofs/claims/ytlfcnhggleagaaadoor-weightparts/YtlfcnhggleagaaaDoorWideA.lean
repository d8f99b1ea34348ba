/-
  Contracts of layer 1's small functions (Add, double, bitsDown and its iterator), each of every argument in its kind's bounds.
-/
import Derived.Test.YtlfcnhggleagaaaDoorWideM
import Derived.Test.YtlfcnhggleagaaaDoorRows
import Derived.RangeFuncNested
import Derived.RangeFuncBound
import Derived.RangeFuncCalls
import Derived.RangeFuncLeaves
import Derived.Shelf.Abstract
import Derived.Shelf.RegionOpen
import Derived.WalkKit
import Derived.OwnWalkIn
import Derived.TacticsInMore
import Derived.LoopNIn
import Derived.LoopIn
import Derived.WalkSpells
import Derived.WalkLawsBesides
import Derived.OpenShut
import Derived.Lib.Hide
namespace Go.Proofs.YtlfcnhggleagaaaDoor
open Go.RowKit Go.Shelf Wd
attribute [local go_sem] Oper.semAt_some

theorem U_of_wf {n : Int} (h : (Lit.int .u64 n).wf = true) : U n := by
  have := bounds_u64 h
  unfold U M; omega

set_option maxHeartbeats 400000 in
theorem add_any (a b c : Int) (w : World) :
    Calls Tryd.prog 30 #[.int .u64 a, .int .u64 b, .int .u64 c] w fun e w' => e = .returned (.tuple #[.int .u64 (addH a b c), .int .u64 (addL b c)]) ∧ w = w' := by
  unfold addH addL
  by_cases h : IntKind.u64.wrap (b + c) < b
  · go_enter Tryd.func30, Tryd.ntmps30
    go_wp2
    go_ret2
    exact ⟨rfl, rfl⟩
  · go_enter Tryd.func30, Tryd.ntmps30
    go_wp2
    go_ret2
    exact ⟨rfl, rfl⟩

set_option maxHeartbeats 400000 in
theorem dbl_any (a b : Int) (w : World) :
    Calls Tryd.prog 29 #[.int .u64 a, .int .u64 b] w fun e w' => e = .returned (.tuple #[.int .u64 (dblH a b), .int .u64 (dblL b)]) ∧ w = w' := by
  unfold dblH dblL
  go_enter Tryd.func29, Tryd.ntmps29
  go_wp2
  go_ret2
  exact ⟨rfl, rfl⟩

set_option maxHeartbeats 400000 in
theorem bd_any (a : Int) (w : World) :
    Calls Tryd.prog 28 #[.int .u64 a] w fun e w' => e = .returned (.func (.func 33) #[] #[.pointer (some ⟨w.heap.size, 0, none⟩)]) ∧ w.alloc (.cells #[.int .u64 a] 35) = w' := by
  go_enter Tryd.func28, Tryd.ntmps28
  go_wp2
  go_ret
  exact ⟨rfl, rfl⟩

/-- what the iterator asks of a round: its own box stays. -/
def KeepsCell (B : Nat) (W W' : World) : Prop := W'.cell? ⟨B, 0, none⟩ = W.cell? ⟨B, 0, none⟩
theorem keepsCell_t {n : Nat} {A B C : World} (h : KeepsCell n A B) (k : KeepsCell n B C) : KeepsCell n A C := k.trans h
theorem keepsCell_b {n : Nat} {w : World} (hn : n < w.heap.size) (W : World) (l : Nat) (o o' : Obj) (hl : w.heap.size ≤ l) (h : W.heap[l]? = some o) (h1 : o.isCells = false) (h2 : o.isWalk = false) : KeepsCell n W (W.putObj l o') :=
  (belowK_b (n₀ := n + 1) (w := w) hn W l o o' hl h h1 h2).cell (p := ⟨n, 0, none⟩) (Nat.lt_succ_self _)

theorem bit_walk (n : Int) (k : Nat) (h : U n) : bits .and .u64 (n / 2 ^ (63 - k)) 1 = b2i (bitAt n k) := by
  rw [b2i_bitAt, and_one _ ?_]
  refine ⟨Int.ediv_nonneg h.1 (Int.le_of_lt (Int.pow_pos (by omega))), Int.lt_of_le_of_lt (Int.ediv_le_self _ h.1) h.2⟩

set_option maxRecDepth 100000 in
set_option maxHeartbeats 2000000 in
theorem bd1_in (F : Fence) (n : Nat) (h22 : F.fn 33) (hro : F.round = none) (hn : 1 ≤ n) (l Bn : Nat) (x : Int) (hx : U x) (J Jx : List Bool → World → Prop)
    (hY : ∀ pre b W, J pre W → pre.length < 64 → YieldAt F (n - 1) Tryd.prog l #[.int .u64 (b2i b)] W fun e W' =>
      (e = .returned (.bool true) ∧ J (pre ++ [b]) W' ∧ KeepsCell Bn W W') ∨ (e = .returned (.bool false) ∧ Jx (pre ++ [b]) W'))
    (W : World) (hBn : W.cell? ⟨Bn, 0, none⟩ = some (.int .u64 x)) (h0 : J [] W) :
    CallsIn F n Tryd.prog 33 #[.func (.yield l) #[] #[], .pointer (some ⟨Bn, 0, none⟩)] W fun e W' => (∃ v, e = .returned v) ∧
      ((∃ ys, ys = bitsUpto x 64 ∧ J ys W') ∨ (∃ pre, (∃ k, k ≤ 64 ∧ pre = bitsUpto x k) ∧ Jx pre W')) := by
  refine callsIn_of_wp Tryd.func33 rfl h22 ?_ hro
  simp only [Tryd.ntmps33, List.size_toArray, List.length_cons, List.length_nil, Nat.reduceAdd, Nat.reduceSub, Array.replicate_succ, Array.replicate_zero, List.push_toArray, List.append_toArray, List.nil_append, List.cons_append]
  gi_wp2
  gi_loopw [4] (fun i wr => ∃ k : Nat, k ≤ 64 ∧ i = .int .i64 k ∧ J (bitsUpto x k) wr ∧ KeepsCell Bn W wr)
    (fun i _ => 64 - (intOf i).toNat)
  case atStart => exact ⟨0, Nat.zero_le _, rfl, h0, rfl⟩
  case round =>
    obtain ⟨k, hk, rfl, hJs, hnx⟩ := hrel
    by_cases hlt : k < 64
    · obtain ⟨fn, tmps, assign, body, hy, hR⟩ := hY _ (bitAt x k) wr hJs (by rw [bitsUpto_length]; exact hlt)
      have hcx : wr.cell? ⟨Bn, 0, none⟩ = some (.int .u64 x) := hnx.trans hBn
      have hbit := bit_walk x k hx
      gi_wp2
      refine hR.mono ?_
      rintro e W3 (⟨rfl, hJ3, hk3⟩ | ⟨rfl, hJx3⟩)
      · gi_wp2
        go_roundw
        case rel => exact ⟨k + 1, by omega, by simp, by rw [bitsUpto_succ]; exact hJ3, keepsCell_t hnx hk3⟩
        case measure => simp [intOf]; omega
      · gi_wp2
        refine bodyPost_ret (results_none rfl _ _ _) rfl ?_
        exact ⟨⟨_, rfl⟩, .inr ⟨_, ⟨k + 1, by omega, (bitsUpto_succ _ _).symm⟩, hJx3⟩⟩
    · obtain rfl : k = 64 := by omega
      gi_wp2
      go_end0
      exact ⟨⟨_, rfl⟩, .inl ⟨_, rfl, hJs⟩⟩

end Go.Proofs.YtlfcnhggleagaaaDoor
