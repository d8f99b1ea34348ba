/-
  Contracts of layer 1's small functions (Add, double, bitsDown and its iterator), each of every argument in its kind's bounds.
  Contracts of layer 1's Mul, Div and Scale, of every argument in its kind's bounds.
  Contracts of layer 2's Of, Nice, Delta, Sum and Share, of every argument in its kind's bounds, in every world that holds the table of weights.
  Contracts of layer 2's Delta, Sum and Share, of every argument in its kind's bounds, in every world that holds the table of weights.
-/
import Derived.Test.YtpmknpdnhfnfcaaGreatDoorPlA
import Derived.Test.YtpmknpdnhfnfcaaGreatDoorRows
import Derived.RangeFuncNested
import Derived.RangeFuncBound
import Derived.RangeFuncCalls
import Derived.RangeFuncLeaves
import Derived.Shelf.Abstract
import Derived.Shelf.RegionOpen
import Derived.WalkKit
import Derived.OwnWalkIn
import Derived.TacticsInMore
import Derived.LoopNIn
import Derived.LoopIn
import Derived.WalkSpells
import Derived.WalkLawsBesides
import Derived.OpenShut
import Derived.Lib.Hide
import Derived.Deep.QuietTactic
import Derived.BigQuiet
import Derived.Test.YtpmknpdnhfnfcaaGreatDoorSlZ
import Derived.Lib.LaidTab
namespace Go.Proofs.YtpmknpdnhfnfcaaGreatDoor
open Go.RowKit Go.Shelf Wd
attribute [local go_sem] Oper.semAt_some

theorem U_of_wf {n : Int} (h : (Lit.int .u64 n).wf = true) : U n := by
  have := bounds_u64 h
  unfold U M; omega

set_option maxRecDepth 100000 in
set_option maxHeartbeats 400000 in
theorem add_any (a b c : Int) (w : World) :
    Calls Tryz.prog 164 #[.int .u64 a, .int .u64 b, .int .u64 c] w fun e w' => e = .returned (.tuple #[.int .u64 (addH a b c), .int .u64 (addL b c)]) ∧ w = w' := by
  unfold addH addL
  by_cases h : IntKind.u64.wrap (b + c) < b
  · go_enter Tryz.func164, Tryz.ntmps164
    go_wp2
    go_ret2
    exact ⟨rfl, rfl⟩
  · go_enter Tryz.func164, Tryz.ntmps164
    go_wp2
    go_ret2
    exact ⟨rfl, rfl⟩

set_option maxRecDepth 100000 in
set_option maxHeartbeats 400000 in
theorem dbl_any (a b : Int) (w : World) :
    Calls Tryz.prog 163 #[.int .u64 a, .int .u64 b] w fun e w' => e = .returned (.tuple #[.int .u64 (dblH a b), .int .u64 (dblL b)]) ∧ w = w' := by
  unfold dblH dblL
  go_enter Tryz.func163, Tryz.ntmps163
  go_wp2
  go_ret2
  exact ⟨rfl, rfl⟩

set_option maxRecDepth 100000 in
set_option maxHeartbeats 400000 in
theorem bd_any (a : Int) (w : World) :
    Calls Tryz.prog 162 #[.int .u64 a] w fun e w' => e = .returned (.func (.func 182) #[] #[.pointer (some ⟨w.heap.size, 0, none⟩)]) ∧ w.alloc (.cells #[.int .u64 a] 25) = w' := by
  go_enter Tryz.func162, Tryz.ntmps162
  go_wp2
  go_ret
  exact ⟨rfl, rfl⟩

/-- what the iterator asks of a round: its own box stays. -/
def KeepsCell (B : Nat) (W W' : World) : Prop := W'.cell? ⟨B, 0, none⟩ = W.cell? ⟨B, 0, none⟩
theorem keepsCell_t {n : Nat} {A B C : World} (h : KeepsCell n A B) (k : KeepsCell n B C) : KeepsCell n A C := k.trans h
theorem keepsCell_b {n : Nat} {w : World} (hn : n < w.heap.size) (W : World) (l : Nat) (o o' : Obj) (hl : w.heap.size ≤ l) (h : W.heap[l]? = some o) (h1 : o.isCells = false) (h2 : o.isWalk = false) : KeepsCell n W (W.putObj l o') :=
  (belowK_b (n₀ := n + 1) (w := w) hn W l o o' hl h h1 h2).cell (p := ⟨n, 0, none⟩) (Nat.lt_succ_self _)

theorem bit_walk (n : Int) (k : Nat) (h : U n) : bits .and .u64 (n / 2 ^ (63 - k)) 1 = b2i (bitAt n k) := by
  rw [b2i_bitAt, and_one _ ?_]
  refine ⟨Int.ediv_nonneg h.1 (Int.le_of_lt (Int.pow_pos (by omega))), Int.lt_of_le_of_lt (Int.ediv_le_self _ h.1) h.2⟩

set_option maxRecDepth 100000 in
set_option maxHeartbeats 2000000 in
theorem bd1_in (F : Fence) (n : Nat) (h22 : F.fn 182) (hro : F.round = none) (hn : 1 ≤ n) (l Bn : Nat) (x : Int) (hx : U x) (J Jx : List Bool → World → Prop)
    (hY : ∀ pre b W, J pre W → pre.length < 64 → YieldAt F (n - 1) Tryz.prog l #[.int .u64 (b2i b)] W fun e W' =>
      (e = .returned (.bool true) ∧ J (pre ++ [b]) W' ∧ KeepsCell Bn W W') ∨ (e = .returned (.bool false) ∧ Jx (pre ++ [b]) W'))
    (W : World) (hBn : W.cell? ⟨Bn, 0, none⟩ = some (.int .u64 x)) (h0 : J [] W) :
    CallsIn F n Tryz.prog 182 #[.func (.yield l) #[] #[], .pointer (some ⟨Bn, 0, none⟩)] W fun e W' => (∃ v, e = .returned v) ∧
      ((∃ ys, ys = bitsUpto x 64 ∧ J ys W') ∨ (∃ pre, (∃ k, k ≤ 64 ∧ pre = bitsUpto x k) ∧ Jx pre W')) := by
  refine callsIn_of_wp Tryz.func182 rfl h22 ?_ hro
  simp only [Tryz.ntmps182, List.size_toArray, List.length_cons, List.length_nil, Nat.reduceAdd, Nat.reduceSub, Array.replicate_succ, Array.replicate_zero, List.push_toArray, List.append_toArray, List.nil_append, List.cons_append]
  gi_wp2
  gi_loopw [4] (fun i wr => ∃ k : Nat, k ≤ 64 ∧ i = .int .i64 k ∧ J (bitsUpto x k) wr ∧ KeepsCell Bn W wr)
    (fun i _ => 64 - (intOf i).toNat)
  case atStart => exact ⟨0, Nat.zero_le _, rfl, h0, rfl⟩
  case round =>
    obtain ⟨k, hk, rfl, hJs, hnx⟩ := hrel
    by_cases hlt : k < 64
    · obtain ⟨fn, tmps, assign, body, hy, hR⟩ := hY _ (bitAt x k) wr hJs (by rw [bitsUpto_length]; exact hlt)
      have hcx : wr.cell? ⟨Bn, 0, none⟩ = some (.int .u64 x) := hnx.trans hBn
      have hbit := bit_walk x k hx
      gi_wp2
      refine hR.mono ?_
      rintro e W3 (⟨rfl, hJ3, hk3⟩ | ⟨rfl, hJx3⟩)
      · gi_wp2
        go_roundw
        case rel => exact ⟨k + 1, by omega, by simp, by rw [bitsUpto_succ]; exact hJ3, keepsCell_t hnx hk3⟩
        case measure => simp [intOf]; omega
      · gi_wp2
        refine bodyPost_ret (results_none rfl _ _ _) rfl ?_
        exact ⟨⟨_, rfl⟩, .inr ⟨_, ⟨k + 1, by omega, (bitsUpto_succ _ _).symm⟩, hJx3⟩⟩
    · obtain rfl : k = 64 := by omega
      gi_wp2
      go_end0
      exact ⟨⟨_, rfl⟩, .inl ⟨_, rfl, hJs⟩⟩

end Go.Proofs.YtpmknpdnhfnfcaaGreatDoor

namespace Go.Proofs.YtpmknpdnhfnfcaaGreatDoor
open Go.RowKit Go.Shelf Wd
attribute [local go_sem] Oper.semAt_some

set_option maxRecDepth 100000 in
theorem bd_stops (n : Nat) (hn : 1 ≤ n) (Bn : Nat) (x : Int) (hx : U x) (w : World) (hBn : Bn < w.heap.size) (hc : w.cell? ⟨Bn, 0, none⟩ = some (.int .u64 x)) :
    SeqStopsK Fence.wide n Tryz.prog 182 #[.pointer (some ⟨Bn, 0, none⟩)] (fun b : Bool => #[Value.int .u64 (b2i b)]) (KeepsCell Bn) (fun ys => ys = bitsUpto x 64)
      (fun pre => ∃ k, k ≤ 64 ∧ pre = bitsUpto x k) 64 w := fun l J Jx W hW _ _ hY h0 =>
  bd1_in Fence.wide n trivial rfl hn l Bn x hx J Jx hY W ((hW.cell (p := ⟨Bn, 0, none⟩) hBn).trans hc) h0

theorem keepsCell_set {n : Nat} {W : World} (b : Nat) (v : Value) (h : n ≠ b) : KeepsCell n W (W.setCell ⟨b, 0, none⟩ v) := World.cell?_setCell_other _ _ _ _ (fun e => h (by cases e; rfl))

set_option maxRecDepth 100000 in
set_option maxHeartbeats 2000000 in
theorem mul_any (a b : Int) (ha : U a) (hb : U b) (w : World) :
    Calls Tryz.prog 137 #[.int .u64 a, .int .u64 b] w fun e w' => e = .returned (.tuple #[.int .u64 (mulH a b), .int .u64 (mulL a b)]) ∧ Below w.heap.size w w' := by
  refine (callsIn_wide (n := 8)).1 ?_
  refine callsIn_of_wp_marks Tryz.func137 rfl trivial ?_ rfl
  simp only [Tryz.ntmps137, List.size_toArray, List.length_cons, List.length_nil, Nat.reduceAdd, Nat.reduceSub, Array.replicate_succ, Array.replicate_zero, List.push_toArray, List.append_toArray, List.nil_append, List.cons_append]
  gi_wp2_with (refine ⟨trivial, ?_⟩; gi_at_call 162; refine (callsIn_wide.2 (bd_any _ _)).mono ?_; rintro e w' ⟨rfl, rfl⟩)
  have bA := ((Boxed.new w 25 (.int .u64 a)).alloc (.cells #[.int .u64 0] 25)).alloc (.cells #[.int .u64 0] 25)
  have bH := (Boxed.new (w.alloc (.cells #[.int .u64 a] 25)) 25 (.int .u64 0)).alloc (.cells #[.int .u64 0] 25)
  have bL := Boxed.new ((w.alloc (.cells #[.int .u64 a] 25)).alloc (.cells #[.int .u64 0] 25)) 25 (.int .u64 0)
  have hB0 : Below w.heap.size w (((w.alloc (.cells #[.int .u64 a] 25)).alloc (.cells #[.int .u64 0] 25)).alloc (.cells #[.int .u64 0] 25)) := (((Below.refl _ w).alloc (Nat.le_refl _) _).alloc (by simp) _).alloc (by simp; omega) _
  have hsz : (((w.alloc (.cells #[.int .u64 a] 25)).alloc (.cells #[.int .u64 0] 25)).alloc (.cells #[.int .u64 0] 25)).heap.size = w.heap.size + 1 + 1 + 1 := by simp
  simp only [World.size_alloc] at bH bL ⊢
  generalize ((w.alloc (.cells #[.int .u64 a] 25)).alloc (.cells #[.int .u64 0] 25)).alloc (.cells #[.int .u64 0] 25) = W0 at *
  have bN := Boxed.new W0 25 (.int .u64 b)
  rw [hsz] at bN
  refine wpIn_rangeFunc_ownG rfl (by omega) (gf := 182) (lb := #[.pointer (some ⟨w.heap.size + 1 + 1 + 1, 0, none⟩)]) rfl trivial (enters_of Tryz.func182 (by kernel_rfl) rfl)
    (bd_stops 7 (by omega) (w.heap.size + 1 + 1 + 1) b hb _ (by simp [hsz]) bN.cell) keepsCell_t (keepsCell_b (by simp [hsz])) (Below.refl _ _) (fun _ => rfl)
    (fun pre W => (Boxed W w.heap.size 25 (.int .u64 a) ∧ Boxed W (w.heap.size + 1) 25 (.int .u64 (mulSt a pre).1) ∧ Boxed W (w.heap.size + 1 + 1) 25 (.int .u64 (mulSt a pre).2)) ∧ Below w.heap.size w W)
    (fun _ _ _ => False)
    (OwnFrom.and (Own.from (fun s A B row hs hg hr => ⟨boxed_own _ _ (fun _ => _) s A B row hs.1 hg hr, boxed_own _ _ (fun pre => .int .u64 (mulSt a pre).1) s A B row hs.2.1 hg hr, boxed_own _ _ (fun pre => .int .u64 (mulSt a pre).2) s A B row hs.2.2 hg hr⟩) _) (ownFrom_below (Nat.le_refl _) (by simp [hsz]; omega)))
    (fun _ _ _ _ _ hs _ _ => hs)
    ⟨⟨bA.alloc _, bH.alloc _, bL.alloc _⟩, hB0.alloc (by omega) _⟩
    (fun x => { tmps := #[.int .u64 a, .int .u64 b, .pointer (some ⟨w.heap.size, 0, none⟩), undef, .int .u64 0, .int .u64 0, .pointer (some ⟨w.heap.size + 1, 0, none⟩), .pointer (some ⟨w.heap.size + 1 + 1, 0, none⟩), .int .u64 (b2i x), .int .u64 b, .func (.func 182) #[] #[.pointer (some ⟨w.heap.size + 1 + 1 + 1, 0, none⟩)], .int .u64 (b2i x), undef, undef, undef, undef, undef, undef, undef, undef, undef, undef, undef, undef, undef, undef, undef, undef, undef], defers := [] }) ?assign ?body ?done ?stop
  case assign =>
    intro l x W K hK
    gi_wp2
    exact hK
  case body =>
    rintro l pre x W ⟨⟨b1, b2, b3⟩, hB⟩ _
    have hc1 := b1.cell
    have hc2 := b2.cell
    have hf2 := b2.frozen
    have hc3 := b3.cell
    have hf3 := b3.frozen
    obtain ⟨s, hs⟩ : ∃ s, mulSt a pre = s := ⟨_, rfl⟩
    have HS : Hid (mulSt a (pre ++ [x]) = mulStep a s x) := by rw [mulSt_snoc, hs]; rfl
    rw [hs] at b2 b3 hc2 hc3
    obtain ⟨h, l0⟩ := s
    dsimp only at b2 b3 hc2 hc3
    clear hs
    cases x
    · have e0 : b2i false = 0 := rfl
      gi_wp2_with (refine ⟨trivial, ?_⟩; gi_at_call 163; refine (CallsIn.inRound l (callsIn_wide.2 (dbl_any _ _ _))).mono ?_; rintro e w' ⟨rfl, rfl⟩)
      refine ⟨?_, ?_, ⟨?_, ?_, ?_⟩, ?_⟩
      · exact ((KeepsOthers.setCell _ _ _).trans (KeepsOthers.setCell _ _ _)).from _
      · exact keepsCell_t (keepsCell_set _ _ (by omega)) (keepsCell_set _ _ (by omega))
      · exact (b1.other (by omega) _).other (by omega) _
      · rw [HS.out]; exact (b2.set _).other (by omega) _
      · rw [HS.out]; exact (b3.other (by omega) _).set _
      · exact (hB.setCell (p := ⟨w.heap.size + 1, 0, none⟩) (by simp) _).setCell (p := ⟨w.heap.size + 1 + 1, 0, none⟩) (by simp; omega) _
    · have e1 : b2i true = 1 := rfl
      gi_wp2_with (first | (refine ⟨trivial, ?_⟩; gi_at_call 163; refine (CallsIn.inRound l (callsIn_wide.2 (dbl_any _ _ _))).mono ?_; rintro e w' ⟨rfl, rfl⟩) | (refine ⟨trivial, ?_⟩; gi_at_call 164; refine (CallsIn.inRound l (callsIn_wide.2 (add_any _ _ _ _))).mono ?_; rintro e w' ⟨rfl, rfl⟩))
      refine ⟨?_, ?_, ⟨?_, ?_, ?_⟩, ?_⟩
      · exact ((((KeepsOthers.setCell _ _ _).trans (KeepsOthers.setCell _ _ _)).trans (KeepsOthers.setCell _ _ _)).trans (KeepsOthers.setCell _ _ _)).from _
      · exact keepsCell_t (keepsCell_t (keepsCell_t (keepsCell_set _ _ (by omega)) (keepsCell_set _ _ (by omega))) (keepsCell_set _ _ (by omega))) (keepsCell_set _ _ (by omega))
      · exact (((b1.other (by omega) _).other (by omega) _).other (by omega) _).other (by omega) _
      · rw [HS.out]; exact (((b2.set _).other (by omega) _).set _).other (by omega) _
      · rw [HS.out]; exact (((b3.other (by omega) _).set _).other (by omega) _).set _
      · exact (((hB.setCell (p := ⟨w.heap.size + 1, 0, none⟩) (by simp) _).setCell (p := ⟨w.heap.size + 1 + 1, 0, none⟩) (by simp; omega) _).setCell (p := ⟨w.heap.size + 1, 0, none⟩) (by simp) _).setCell (p := ⟨w.heap.size + 1 + 1, 0, none⟩) (by simp; omega) _
  case done =>
    rintro D ys W hD rfl ⟨⟨b1, b2, b3⟩, hB⟩ hK
    have hc2 := b2.cell
    have hc3 := b3.cell
    have hfin := mulSt_all a b ha hb
    rw [hfin] at hc2 hc3
    dsimp only at hc2 hc3
    clear hfin
    have hmx : Tryz.prog.follows .mixedOrders = true := by kernel_rfl
    gi_wp2
    gi_region_o
    all_goals gi_wp2
    all_goals (refine ⟨by simp, .inl ⟨_, _, rfl, run_takeDeferred hK, ?_⟩⟩)
    exact ⟨_, results_tmp2 rfl _ _ _, rfl, hB.drew.trans (belowK_b (w := w) (Nat.le_refl _) W.drew D _ _ (by simp at hD; omega) hK rfl rfl)⟩
  case stop =>
    rintro D c pre W _ _ h _
    exact h.elim

set_option maxRecDepth 100000 in
set_option maxHeartbeats 400000 in
theorem div_zero (h l d : Int) (w : World) (h0 : (d == 0) = true) :
    Calls Tryz.prog 138 #[.int .u64 h, .int .u64 l, .int .u64 d] w fun e w' => e = .returned (.tuple #[.int .u64 0, .int .u64 0, .bool false]) ∧ Below w.heap.size w w' := by
  go_enter Tryz.func138, Tryz.ntmps138
  go_wp2
  go_ret3
  exact ⟨rfl, (Below.refl _ _).alloc (Nat.le_refl _) _⟩

set_option maxRecDepth 100000 in
set_option maxHeartbeats 400000 in
theorem div_over (h l d : Int) (w : World) (h0 : (d == 0) = false) (h1 : d ≤ h) :
    Calls Tryz.prog 138 #[.int .u64 h, .int .u64 l, .int .u64 d] w fun e w' => e = .returned (.tuple #[.int .u64 0, .int .u64 0, .bool false]) ∧ Below w.heap.size w w' := by
  go_enter Tryz.func138, Tryz.ntmps138
  go_wp2
  go_ret3
  exact ⟨rfl, (Below.refl _ _).alloc (Nat.le_refl _) _⟩

set_option maxRecDepth 100000 in
set_option maxHeartbeats 4000000 in
theorem div_yes (h l d : Int) (hh : U h) (hl : U l) (hd : U d) (w : World) (h0 : (d == 0) = false) (h1 : h < d) :
    Calls Tryz.prog 138 #[.int .u64 h, .int .u64 l, .int .u64 d] w fun e w' => e = .returned (.tuple #[.int .u64 (divQ h l d), .int .u64 (divR h l d), .bool true]) ∧ Below w.heap.size w w' := by
  have h1' : decide (d ≤ h) = false := by simp; omega
  refine (callsIn_wide (n := 8)).1 ?_
  refine callsIn_of_wp_marks Tryz.func138 rfl trivial ?_ rfl
  simp only [Tryz.ntmps138, List.size_toArray, List.length_cons, List.length_nil, Nat.reduceAdd, Nat.reduceSub, Array.replicate_succ, Array.replicate_zero, List.push_toArray, List.append_toArray, List.nil_append, List.cons_append]
  gi_wp2_with (refine ⟨trivial, ?_⟩; gi_at_call 162; refine (callsIn_wide.2 (bd_any _ _)).mono ?_; rintro e w' ⟨rfl, rfl⟩)
  have bA := ((Boxed.new w 25 (.int .u64 d)).alloc (.cells #[.int .u64 0] 25)).alloc (.cells #[.int .u64 h] 25)
  have bH := (Boxed.new (w.alloc (.cells #[.int .u64 d] 25)) 25 (.int .u64 0)).alloc (.cells #[.int .u64 h] 25)
  have bL := Boxed.new ((w.alloc (.cells #[.int .u64 d] 25)).alloc (.cells #[.int .u64 0] 25)) 25 (.int .u64 h)
  have hB0 : Below w.heap.size w (((w.alloc (.cells #[.int .u64 d] 25)).alloc (.cells #[.int .u64 0] 25)).alloc (.cells #[.int .u64 h] 25)) := (((Below.refl _ w).alloc (Nat.le_refl _) _).alloc (by simp) _).alloc (by simp; omega) _
  have hsz : (((w.alloc (.cells #[.int .u64 d] 25)).alloc (.cells #[.int .u64 0] 25)).alloc (.cells #[.int .u64 h] 25)).heap.size = w.heap.size + 1 + 1 + 1 := by simp
  simp only [World.size_alloc] at bH bL ⊢
  generalize ((w.alloc (.cells #[.int .u64 d] 25)).alloc (.cells #[.int .u64 0] 25)).alloc (.cells #[.int .u64 h] 25) = W0 at *
  have bN := Boxed.new W0 25 (.int .u64 l)
  rw [hsz] at bN
  refine wpIn_rangeFunc_ownG rfl (by omega) (gf := 182) (lb := #[.pointer (some ⟨w.heap.size + 1 + 1 + 1, 0, none⟩)]) rfl trivial (enters_of Tryz.func182 (by kernel_rfl) rfl)
    (bd_stops 7 (by omega) (w.heap.size + 1 + 1 + 1) l hl _ (by simp [hsz]) bN.cell) keepsCell_t (keepsCell_b (by simp [hsz])) (Below.refl _ _) (fun _ => rfl)
    (fun pre W => (Boxed W w.heap.size 25 (.int .u64 d) ∧ Boxed W (w.heap.size + 1) 25 (.int .u64 (divSt h d pre).2) ∧ Boxed W (w.heap.size + 1 + 1) 25 (.int .u64 (divSt h d pre).1)) ∧ Below w.heap.size w W)
    (fun _ _ _ => False)
    (OwnFrom.and (Own.from (fun s A B row hs hg hr => ⟨boxed_own _ _ (fun _ => _) s A B row hs.1 hg hr, boxed_own _ _ (fun pre => .int .u64 (divSt h d pre).2) s A B row hs.2.1 hg hr, boxed_own _ _ (fun pre => .int .u64 (divSt h d pre).1) s A B row hs.2.2 hg hr⟩) _) (ownFrom_below (Nat.le_refl _) (by simp [hsz]; omega)))
    (fun _ _ _ _ _ hs _ _ => hs)
    ⟨⟨bA.alloc _, bH.alloc _, bL.alloc _⟩, hB0.alloc (by omega) _⟩
    (fun x => { tmps := #[.int .u64 h, .int .u64 l, .int .u64 d, undef, undef, .pointer (some ⟨w.heap.size, 0, none⟩), .int .u64 0, .int .u64 0, .bool false, .pointer (some ⟨w.heap.size + 1, 0, none⟩), .pointer (some ⟨w.heap.size + 1 + 1, 0, none⟩), .int .u64 (b2i x), undef, .int .u64 d, .bool false, .bool false, .int .u64 h, .int .u64 d, .bool false, .bool false, .int .u64 h, .int .u64 l, .func (.func 182) #[] #[.pointer (some ⟨w.heap.size + 1 + 1 + 1, 0, none⟩)], .int .u64 (b2i x), undef, undef, undef, undef, undef, undef, undef, undef, undef, undef, undef, undef, undef, undef, undef, undef, undef, undef, undef, undef, undef, undef], defers := [] }) ?assign ?body ?done ?stop
  case assign =>
    intro l x W K hK
    gi_wp2
    exact hK
  case body =>
    rintro l pre x W ⟨⟨b1, b2, b3⟩, hB⟩ _
    have hc1 := b1.cell
    have hc2 := b2.cell
    have hf2 := b2.frozen
    have hc3 := b3.cell
    have hf3 := b3.frozen
    obtain ⟨s, hs⟩ : ∃ s, divSt h d pre = s := ⟨_, rfl⟩
    have HS : Hid (divSt h d (pre ++ [x]) = divStep d s x) := by rw [divSt_snoc, hs]; rfl
    rw [hs] at b2 b3 hc2 hc3
    obtain ⟨r, q⟩ := s
    dsimp only at b2 b3 hc2 hc3
    clear hs h1' h0 bA bH bL bN hB0
    by_cases ho : r / 9223372036854775808 = 1
    · have HT : Hid (divSt h d (pre ++ [x]) = (divR2 r d x, divQ2 q)) := by unfold Hid; rw [HS.out]; unfold divStep; rw [if_pos (.inl ho)]
      have ho' : (r / 9223372036854775808 == 1) = true := by simp [ho]
      clear HS ho
      gi_wp2
      refine ⟨?_, ?_, ⟨?_, ?_, ?_⟩, ?_⟩
      · exact ((((KeepsOthers.setCell _ _ _).trans (KeepsOthers.setCell _ _ _)).trans (KeepsOthers.setCell _ _ _)).trans (KeepsOthers.setCell _ _ _)).from _
      · exact keepsCell_t (keepsCell_t (keepsCell_t (keepsCell_set _ _ (by omega)) (keepsCell_set _ _ (by omega))) (keepsCell_set _ _ (by omega))) (keepsCell_set _ _ (by omega))
      · exact (((b1.other (by omega) _).other (by omega) _).other (by omega) _).other (by omega) _
      · rw [HT.out]; exact (((b2.other (by omega) _).set _).other (by omega) _).set _
      · rw [HT.out]; exact (((b3.set _).other (by omega) _).set _).other (by omega) _
      · exact (((hB.setCell (p := ⟨w.heap.size + 1 + 1, 0, none⟩) (by simp; omega) _).setCell (p := ⟨w.heap.size + 1, 0, none⟩) (by simp) _).setCell (p := ⟨w.heap.size + 1 + 1, 0, none⟩) (by simp; omega) _).setCell (p := ⟨w.heap.size + 1, 0, none⟩) (by simp) _
    · have ho' : (r / 9223372036854775808 == 1) = false := by simp [ho]
      by_cases hg : d ≤ divR1 r x
      · have HT : Hid (divSt h d (pre ++ [x]) = (divR2 r d x, divQ2 q)) := by unfold Hid; rw [HS.out]; unfold divStep; rw [if_pos (.inr hg)]
        have hg' : decide (d ≤ bits BinOp.or IntKind.u64 (IntKind.u64.wrap (r * 2)) (b2i x)) = true := decide_eq_true hg
        clear HS ho hg
        gi_wp2
        refine ⟨?_, ?_, ⟨?_, ?_, ?_⟩, ?_⟩
        · exact ((((KeepsOthers.setCell _ _ _).trans (KeepsOthers.setCell _ _ _)).trans (KeepsOthers.setCell _ _ _)).trans (KeepsOthers.setCell _ _ _)).from _
        · exact keepsCell_t (keepsCell_t (keepsCell_t (keepsCell_set _ _ (by omega)) (keepsCell_set _ _ (by omega))) (keepsCell_set _ _ (by omega))) (keepsCell_set _ _ (by omega))
        · exact (((b1.other (by omega) _).other (by omega) _).other (by omega) _).other (by omega) _
        · rw [HT.out]; exact (((b2.other (by omega) _).set _).other (by omega) _).set _
        · rw [HT.out]; exact (((b3.set _).other (by omega) _).set _).other (by omega) _
        · exact (((hB.setCell (p := ⟨w.heap.size + 1 + 1, 0, none⟩) (by simp; omega) _).setCell (p := ⟨w.heap.size + 1, 0, none⟩) (by simp) _).setCell (p := ⟨w.heap.size + 1 + 1, 0, none⟩) (by simp; omega) _).setCell (p := ⟨w.heap.size + 1, 0, none⟩) (by simp) _
      · have HT : Hid (divSt h d (pre ++ [x]) = (divR1 r x, divQ1 q)) := by unfold Hid; rw [HS.out]; unfold divStep; rw [if_neg (by rintro (k | k); exact ho k; exact hg k)]
        have hg' : decide (d ≤ bits BinOp.or IntKind.u64 (IntKind.u64.wrap (r * 2)) (b2i x)) = false := decide_eq_false hg
        clear HS ho hg
        gi_wp2
        refine ⟨?_, ?_, ⟨?_, ?_, ?_⟩, ?_⟩
        · exact ((KeepsOthers.setCell _ _ _).trans (KeepsOthers.setCell _ _ _)).from _
        · exact keepsCell_t (keepsCell_set _ _ (by omega)) (keepsCell_set _ _ (by omega))
        · exact (b1.other (by omega) _).other (by omega) _
        · rw [HT.out]; exact (b2.other (by omega) _).set _
        · rw [HT.out]; exact (b3.set _).other (by omega) _
        · exact (hB.setCell (p := ⟨w.heap.size + 1 + 1, 0, none⟩) (by simp; omega) _).setCell (p := ⟨w.heap.size + 1, 0, none⟩) (by simp) _
  case done =>
    rintro D ys W hD rfl ⟨⟨b1, b2, b3⟩, hB⟩ hK
    have hc2 := b2.cell
    have hc3 := b3.cell
    have hfin := divSt_all h l d hh hl hd h1
    rw [hfin] at hc2 hc3
    dsimp only at hc2 hc3
    clear hfin
    have hmx : Tryz.prog.follows .mixedOrders = true := by kernel_rfl
    gi_wp2
    gi_region_o
    all_goals gi_wp2
    all_goals (refine ⟨by simp, .inl ⟨_, _, rfl, run_takeDeferred hK, ?_⟩⟩)
    exact ⟨_, results_tmp3 rfl _ _ _, rfl, hB.drew.trans (belowK_b (w := w) (Nat.le_refl _) W.drew D _ _ (by simp at hD; omega) hK rfl rfl)⟩
  case stop =>
    rintro D c pre W _ _ h _
    exact h.elim

/-- **Div, at all arguments.** -/
theorem div_any (h l d : Int) (hh : U h) (hl : U l) (hd : U d) (w : World) :
    Calls Tryz.prog 138 #[.int .u64 h, .int .u64 l, .int .u64 d] w fun e w' => e = .returned (.tuple #[.int .u64 (divQq h l d), .int .u64 (divRr h l d), .bool (divOk h d)]) ∧ Below w.heap.size w w' := by
  by_cases h0 : d = 0
  · have hk : divOk h d = false := by simp [divOk, h0]
    unfold divQq divRr
    rw [hk]
    exact div_zero h l d w (by simp [h0])
  · by_cases h1 : h < d
    · have hk : divOk h d = true := by simp [divOk, h0, h1]
      unfold divQq divRr
      rw [hk]
      exact div_yes h l d hh hl hd w (by simp [h0]) h1
    · have hk : divOk h d = false := by simp [divOk, h0]; omega
      unfold divQq divRr
      rw [hk]
      exact div_over h l d w (by simp [h0]) (by omega)

set_option maxRecDepth 100000 in
set_option maxHeartbeats 400000 in
/-- **Scale, at all arguments.** -/
theorem scale_any (a b d : Int) (ha : U a) (hb : U b) (hd : U d) (w : World) :
    Calls Tryz.prog 109 #[.int .u64 a, .int .u64 b, .int .u64 d] w fun e w' => e = .returned (.int .u64 (scl a b d)) ∧ Below w.heap.size w w' := by
  have hH := U_mulH a b ha hb
  have hL := U_mulL a b
  cases hk : divOk (mulH a b) d with
  | true =>
    have HF : Hid (scl a b d = divQq (mulH a b) (mulL a b) d) := by unfold Hid scl divQq; rw [hk]; rfl
    have HK : Hid (divOk (mulH a b) d = true) := hk
    clear hk
    go_enter Tryz.func109, Tryz.ntmps109
    go_wp2_with fail
    refine (mul_any a b ha hb _).mono ?_
    rintro e w1 ⟨rfl, hb1⟩
    go_wp2_with fail
    refine (div_any _ _ d hH hL hd _).mono ?_
    rintro e w2 ⟨rfl, hb2⟩
    rw [HK.out]
    go_wp2
    go_ret
    exact ⟨by rw [HF.out]; rfl, hb1.trans (hb2.mono hb1.size)⟩
  | false =>
    have HF : Hid (scl a b d = 18446744073709551615) := by unfold Hid scl; rw [hk]; rfl
    have HK : Hid (divOk (mulH a b) d = false) := hk
    clear hk
    go_enter Tryz.func109, Tryz.ntmps109
    go_wp2_with fail
    refine (mul_any a b ha hb _).mono ?_
    rintro e w1 ⟨rfl, hb1⟩
    go_wp2_with fail
    refine (div_any _ _ d hH hL hd _).mono ?_
    rintro e w2 ⟨rfl, hb2⟩
    rw [HK.out]
    go_wp2
    go_ret
    exact ⟨by rw [HF.out]; rfl, hb1.trans (hb2.mono hb1.size)⟩

end Go.Proofs.YtpmknpdnhfnfcaaGreatDoor

namespace Go.Proofs.YtpmknpdnhfnfcaaGreatDoor
open Go.RowKit Go.Shelf Wd Wg

/-- The table of weights lies in the world. -/
def Tab (w : World) : Prop := ∀ i, i < 40 → w.cell? ⟨0, i, none⟩ = some (.int .i64 (tab.getD i 0))
theorem Tab.below {w w' : World} (h : Tab w) (hb : Below w.heap.size w w') : Tab w' := fun i hi => by
  rw [hb.cell (p := ⟨0, i, none⟩) (World.block_lt_of_cell? w ⟨0, i, none⟩ (h i hi))]
  exact h i hi

set_option maxRecDepth 100000 in
set_option maxHeartbeats 400000 in
theorem of_yes (n : Int) (h : isNice n) (w : World) (hT : Tab w) :
    Calls Tryz.prog 129 #[.int .i64 n] w fun e w' => e = .returned (.tuple #[.int .i64 (wt n), .int .i64 0]) ∧ w = w' := by
  obtain ⟨k, rfl⟩ : ∃ k : Nat, n = (k : Int) - 20 := ⟨(n + 20).toNat, by unfold isNice at h; omega⟩
  have hk : k < 40 := by unfold isNice at h; omega
  have hc := hT k hk
  rw [wt_at]
  clear h hT
  have h1 : (-20 : Int) ≤ (k : Int) - 20 := by omega
  have h2 : (k : Int) - 20 ≤ 19 := by omega
  generalize tab.getD k 0 = x at *
  go_enter Tryz.func129, Tryz.ntmps129
  go_wp2
  go_ret2
  exact ⟨rfl, rfl⟩

set_option maxRecDepth 100000 in
set_option maxHeartbeats 400000 in
theorem of_no (n : Int) (h : ¬ isNice n) (w : World) :
    Calls Tryz.prog 129 #[.int .i64 n] w fun e w' => e = .returned (.tuple #[.int .i64 0, .int .i64 1]) ∧ w = w' := by
  by_cases h1 : n < -20
  · clear h
    go_enter Tryz.func129, Tryz.ntmps129
    go_wp2
    go_ret2
    exact ⟨rfl, rfl⟩
  · have h2 : 19 < n := by unfold isNice at h; omega
    clear h
    go_enter Tryz.func129, Tryz.ntmps129
    go_wp2
    go_ret2
    exact ⟨rfl, rfl⟩

theorem of_any (n : Int) (w : World) (hT : Tab w) :
    Calls Tryz.prog 129 #[.int .i64 n] w fun e w' => e = .returned (.tuple #[.int .i64 (ofW n), .int .i64 (ofE n)]) ∧ w = w' := by
  unfold ofW ofE
  by_cases h : isNice n
  · rw [if_pos h, if_pos h]; exact of_yes n h w hT
  · rw [if_neg h, if_neg h]; exact of_no n h w

end Go.Proofs.YtpmknpdnhfnfcaaGreatDoor

namespace Go.Proofs.YtpmknpdnhfnfcaaGreatDoor
open Go.RowKit Go.Shelf Wd Wg

set_option maxRecDepth 100000 in
set_option maxHeartbeats 400000 in
theorem delta_no (d x : Int) (h : d < 0 ∨ x < 1) (w : World) :
    Calls Tryz.prog 60 #[.int .i64 d, .int .i64 x] w fun e w' => e = .returned (.tuple #[.int .i64 0, .int .i64 1]) ∧ Below w.heap.size w w' := by
  by_cases h1 : d < 0
  · clear h
    go_enter Tryz.func60, Tryz.ntmps60
    go_wp2
    go_ret2
    exact ⟨rfl, Below.refl _ _⟩
  · have h2 : x < 1 := by omega
    clear h
    go_enter Tryz.func60, Tryz.ntmps60
    go_wp2
    go_ret2
    exact ⟨rfl, Below.refl _ _⟩

set_option maxRecDepth 100000 in
set_option maxHeartbeats 400000 in
theorem delta_yes (d x : Int) (hd : 0 ≤ d) (hd2 : d ≤ 9223372036854775807) (hx : 1 ≤ x) (hx2 : x ≤ 9223372036854775807) (w : World) :
    Calls Tryz.prog 60 #[.int .i64 d, .int .i64 x] w fun e w' => e = .returned (.tuple #[.int .i64 (dlt d x), .int .i64 0]) ∧ Below w.heap.size w w' := by
  have ud : U d := U_nat d hd hd2
  have ux : U x := U_nat x (by omega) hx2
  have hw1 : IntKind.u64.wrap d = d := wrap_U ud
  have hw2 : IntKind.u64.wrap x = x := wrap_U ux
  have us := U_scl 1024 d x U_1024 ud ux
  go_enter Tryz.func60, Tryz.ntmps60
  go_wp2_with fail
  refine (scale_any 1024 d x U_1024 ud ux _).mono ?_
  rintro e w1 ⟨rfl, hb1⟩
  have HD : Hid (dlt d x = min (scl 1024 d x) step48) := rfl
  generalize scl 1024 d x = s at *
  clear hw1 hw2 ud ux
  have hs0 := us.1
  clear us
  by_cases hle : s ≤ 281474976710656
  · have HE : Hid (dlt d x = s) := HD.out.trans (Int.min_eq_left hle)
    clear HD
    go_wp2
    go_ret2
    exact ⟨by rw [HE.out]; rfl, hb1⟩
  · have HE : Hid (dlt d x = 281474976710656) := HD.out.trans (Int.min_eq_right (by unfold step48; omega))
    clear HD
    go_wp2
    go_ret2
    exact ⟨by rw [HE.out]; rfl, hb1⟩

end Go.Proofs.YtpmknpdnhfnfcaaGreatDoor
