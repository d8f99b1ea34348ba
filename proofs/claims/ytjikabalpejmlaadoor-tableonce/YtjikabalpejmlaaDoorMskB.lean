/-
  Contracts of layer 4's iterator (rising) and of what ranges over it: Count, List, First.
-/
import Derived.Test.YtjikabalpejmlaaDoorMskA
import Derived.RangeFuncBox
import Derived.Maps.AppendAt
import Derived.Deep.QuietTactic
import Derived.BigQuiet
namespace Go.Proofs.YtjikabalpejmlaaDoor
open Go.RowKit Go.Shelf Mk
attribute [local go_sem] Oper.semAt_some

set_option maxHeartbeats 400000 in
theorem rising_any (x : Nat) (w : World) :
    Calls Tryd.prog 54 #[.int .u64 x] w fun e w' => e = .returned (.func (.func 66) #[] #[.pointer (some ⟨w.heap.size, 0, none⟩)]) ∧ w.alloc (.cells #[.int .u64 x] 28) = w' := by
  go_enter Tryd.func54, Tryd.ntmps54
  go_wp2
  go_ret
  exact ⟨rfl, rfl⟩

theorem pred_walk (r : Nat) (hr : V r) (h0 : r ≠ 0) : bits .and .u64 (r : Int) (IntKind.u64.wrap ((r : Int) - 1)) = ((r &&& (r - 1) : Nat) : Int) := by
  have e : IntKind.u64.wrap ((r : Int) - 1) = ((r - 1 : Nat) : Int) := by rw [IntKind.wrap_u64]; unfold V at hr; omega
  rw [e]
  exact bits_and_u64_nat _ _ hr (by unfold V at hr; omega)

/-- How many are still to come. -/
def left (v : Value) : Nat := (cpus (intOf v).toNat).length
theorem left_at (r : Nat) : left (.int .u64 (r : Nat)) = (cpus r).length := by simp [left, intOf]

set_option maxRecDepth 100000 in
set_option maxHeartbeats 2000000 in
theorem rs1_in (n : Nat) (hn : 1 ≤ n) (l Bn n₀ : Nat) (hg : 1 < n₀) (x : Nat) (hx : V x) (J Jx : List Nat → World → Prop)
    (hY : ∀ pre b W, J pre W → pre.length < 64 → YieldAt Fence.wide (n - 1) Tryd.prog l #[.int .i64 (b : Nat)] W fun e W' =>
      (e = .returned (.bool true) ∧ J (pre ++ [b]) W' ∧ Below n₀ W W') ∨ (e = .returned (.bool false) ∧ Jx (pre ++ [b]) W'))
    (W : World) (hBn : W.cell? ⟨Bn, 0, none⟩ = some (.int .u64 x)) (hT : TabM W) (h0 : J [] W) :
    CallsIn Fence.wide n Tryd.prog 66 #[.func (.yield l) #[] #[], .pointer (some ⟨Bn, 0, none⟩)] W fun e W' => (∃ v, e = .returned v) ∧
      ((∃ ys, ys = cpus x ∧ J ys W') ∨ (∃ pre, pre <+: cpus x ∧ Jx pre W')) := by
  refine callsIn_of_wp Tryd.func66 rfl trivial ?_ rfl
  simp only [Tryd.ntmps66, List.size_toArray, List.length_cons, List.length_nil, Nat.reduceAdd, Nat.reduceSub, Array.replicate_succ, Array.replicate_zero, List.push_toArray, List.append_toArray, List.nil_append, List.cons_append]
  gi_wp2
  gi_loopw [3] (fun i wr => ∃ (r : Nat) (pre : List Nat), V r ∧ i = .int .u64 r ∧ cpus x = pre ++ cpus r ∧ J pre wr ∧ Below n₀ W wr)
    (fun i _ => left i)
  case atStart => exact ⟨x, [], hx, rfl, rfl, h0, Below.refl _ _⟩
  case round =>
    obtain ⟨r, pre, hr, rfl, hpre, hJs, hnx⟩ := hrel
    by_cases hz : r = 0
    · subst hz
      have HP := Lib.hid hpre
      clear hpre
      gi_wp2
      go_end0
      exact ⟨⟨_, rfl⟩, .inl ⟨_, by have := HP.out; rw [cpus_zero, List.append_nil] at this; exact this.symm, hJs⟩⟩
    · have HZ : Hid (r ≠ 0) := hz
      have HV : Hid (V r) := hr
      have hz' : ((r : Int) != 0) = true := by simpa using hz
      have hst := cpus_step r hr hz
      have HS : Hid (cpus r = Lib.ctz 64 r :: cpus (r &&& (r - 1))) := hst
      have hlen : pre.length < 64 := by
        have := cpus_le x
        rw [hpre, hst, List.length_append, List.length_cons] at this
        omega
      have HP : Hid (cpus x = (pre ++ [Lib.ctz 64 r]) ++ cpus (r &&& (r - 1))) := by unfold Hid; rw [hpre, hst]; simp
      have HT : Hid (TabM wr) := fun i hi => by rw [hnx.cell (p := ⟨1, i, none⟩) hg]; exact hT i hi
      have HW : Hid (bits .and .u64 (r : Int) (IntKind.u64.wrap ((r : Int) - 1)) = ((r &&& (r - 1) : Nat) : Int)) := pred_walk r hr hz
      clear hpre hst hz hr hT
      obtain ⟨fn, tmps, assign, body, hy, hR⟩ := hY _ (Lib.ctz 64 r) wr hJs hlen
      gi_wp2_with (refine ⟨trivial, ?_⟩; gi_at_call 67; refine (callsIn_wide.2 (tz_any r HV.out HZ.out _ HT.out)).mono ?_; rintro e w' ⟨rfl, rfl⟩)
      refine hR.mono ?_
      rintro e W3 (⟨rfl, hJ3, hk3⟩ | ⟨rfl, hJx3⟩)
      · gi_wp2
        go_roundw
        case rel => exact ⟨r &&& (r - 1), _, V_and HV.out, by rw [HW.out], HP.out, hJ3, hnx.trans hk3⟩
        case measure =>
          rw [HW.out, left_at, left_at, HS.out]; simp
      · gi_wp2
        refine bodyPost_ret (results_none rfl _ _ _) rfl ?_
        exact ⟨⟨_, rfl⟩, .inr ⟨_, ⟨_, HP.out.symm⟩, hJx3⟩⟩

theorem rs_stops (n : Nat) (hn : 1 ≤ n) (Bn n₀ : Nat) (hg : 1 < n₀) (x : Nat) (hx : V x) (w : World) (hBn : Bn < w.heap.size) (hc : w.cell? ⟨Bn, 0, none⟩ = some (.int .u64 x)) (hT : TabM w) :
    SeqStopsK Fence.wide n Tryd.prog 66 #[.pointer (some ⟨Bn, 0, none⟩)] (fun b : Nat => #[Value.int .i64 b]) (Below n₀) (fun ys => ys = cpus x) (fun pre => pre <+: cpus x) 64 w := fun l J Jx W hW _ _ hY h0 =>
  rs1_in n hn l Bn n₀ hg x hx J Jx hY W ((hW.cell (p := ⟨Bn, 0, none⟩) hBn).trans hc) (hT.below hW) h0

theorem info_int : (Tryd.prog.info? 3).map (fun i => (i.zero, i.size, i.bytes)) = some (some (.int .i64 0), 1, 8) := by kernel_rfl

set_option maxRecDepth 100000 in
set_option maxHeartbeats 2000000 in
theorem first_any (x : Nat) (hx : V x) (w : World) (hT : TabM w) :
    Calls Tryd.prog 36 #[.int .u64 x] w fun e w' => e = .returned (.tuple #[.int .i64 (fstI (cpus x)), .bool (anyB (cpus x))]) ∧ Below w.heap.size w w' := by
  have hg := hT.lt
  refine (callsIn_wide (n := 8)).1 ?_
  refine callsIn_of_wp_marks Tryd.func36 rfl trivial ?_ rfl
  simp only [Tryd.ntmps36, List.size_toArray, List.length_cons, List.length_nil, Nat.reduceAdd, Nat.reduceSub, Array.replicate_succ, Array.replicate_zero, List.push_toArray, List.append_toArray, List.nil_append, List.cons_append]
  gi_wp2_with (refine ⟨trivial, ?_⟩; gi_at_call 54; refine (callsIn_wide.2 (rising_any _ _)).mono ?_; rintro e w' ⟨rfl, rfl⟩)
  have bC := ((Boxed.new w 3 (.int .i64 0)).alloc (.cells #[.bool false] 4)).alloc (.cells #[.int .u64 x] 28)
  have bD := (Boxed.new (w.alloc (.cells #[.int .i64 0] 3)) 4 (.bool false)).alloc (.cells #[.int .u64 x] 28)
  have bN := Boxed.new ((w.alloc (.cells #[.int .i64 0] 3)).alloc (.cells #[.bool false] 4)) 28 (.int .u64 x)
  have hB0 : Below w.heap.size w (((w.alloc (.cells #[.int .i64 0] 3)).alloc (.cells #[.bool false] 4)).alloc (.cells #[.int .u64 x] 28)) := (((Below.refl _ w).alloc (Nat.le_refl _) _).alloc (by simp) _).alloc (by simp; omega) _
  have hT0 := hT.below hB0
  simp only [World.size_alloc] at bN bD
  refine wpIn_rangeFunc_ownG rfl (by omega) (gf := 66) (lb := #[.pointer (some ⟨w.heap.size + 1 + 1, 0, none⟩)]) rfl trivial (enters_of Tryd.func66 (by kernel_rfl) rfl)
    (rs_stops 7 (by omega) (w.heap.size + 1 + 1) w.heap.size hg x hx _ (by simp) bN.cell hT0) belowK_t (belowK_b (by simp; omega)) (Below.refl _ _) (fun _ => rfl)
    (fun pre W => (pre = [] ∧ Boxed W w.heap.size 3 (.int .i64 0) ∧ Boxed W (w.heap.size + 1) 4 (.bool false)) ∧ Below w.heap.size w W)
    (fun c pre W => (c = .ret ∧ ∃ b : Nat, pre = [b] ∧ Boxed W w.heap.size 3 (.int .i64 (b : Int)) ∧ Boxed W (w.heap.size + 1) 4 (.bool true)) ∧ Below w.heap.size w W)
    (OwnFrom.and (Own.from (fun s A B row hs hg hr => ⟨hs.1, boxed_own _ _ (fun _ => _) s A B row hs.2.1 hg hr, boxed_own _ _ (fun _ => _) s A B row hs.2.2 hg hr⟩) _) (ownFrom_below (Nat.le_refl _) (by simp; omega)))
    (fun c => OwnFrom.and (Own.from (fun s A B row hs hg hr => ⟨hs.1, by obtain ⟨b, h1, h2, h3⟩ := hs.2; exact ⟨b, h1, boxed_own _ _ (fun _ => _) s A B row h2 hg hr, boxed_own _ _ (fun _ => _) s A B row h3 hg hr⟩⟩) _) (ownFrom_below (Nat.le_refl _) (by simp; omega)))
    ⟨⟨rfl, bC, bD⟩, hB0⟩
    (fun b => { tmps := #[.int .u64 x, undef, .pointer (some ⟨w.heap.size, 0, none⟩), .pointer (some ⟨w.heap.size + 1, 0, none⟩), .int .i64 (b : Nat), .int .u64 x, .func (.func 66) #[] #[.pointer (some ⟨w.heap.size + 1 + 1, 0, none⟩)], .int .i64 (b : Nat), undef], defers := [] }) ?assign ?body ?done ?stop
  case assign =>
    intro l b W K hK
    gi_wp2
    exact hK
  case body =>
    rintro l pre b W ⟨⟨rfl, b1, b2⟩, hB⟩ hlt
    have hc1 := b1.cell
    have hf1 := b1.frozen
    have hc2 := b2.cell
    have hf2 := b2.frozen
    clear bC bD bN hT hT0 hB0
    gi_wp2
    refine ⟨?_, ⟨rfl, b, rfl, ?_, ?_⟩, ?_⟩
    · exact ((KeepsOthers.setCell _ _ _).trans (KeepsOthers.setCell _ _ _)).from _
    · exact (b1.set _).other (by omega) _
    · exact (b2.other (by omega) _).set _
    · exact (hB.setCell (p := ⟨w.heap.size, 0, none⟩) (Nat.le_refl _) _).setCell (p := ⟨w.heap.size + 1, 0, none⟩) (by simp) _
  case done =>
    rintro D ys W hD rfl ⟨⟨hnil, b1, b2⟩, hB⟩ hK
    have hc1 := b1.cell
    have hf1 := b1.frozen
    have hc2 := b2.cell
    have hf2 := b2.frozen
    have HN := Lib.hid hnil
    clear bC bD bN hT hT0 hB0 hnil
    gi_wp2
    have hK2 := ((KeepsOthers.setCell W ⟨w.heap.size, 0, none⟩ (.int .i64 0)).trans (KeepsOthers.setCell _ ⟨w.heap.size + 1, 0, none⟩ (.bool false))).same D _ hK rfl
    have hB2 : Below w.heap.size w ((W.setCell ⟨w.heap.size, 0, none⟩ (.int .i64 0)).setCell ⟨w.heap.size + 1, 0, none⟩ (.bool false)) := (hB.setCell (p := ⟨w.heap.size, 0, none⟩) (Nat.le_refl _) _).setCell (p := ⟨w.heap.size + 1, 0, none⟩) (by simp) _
    have hd1 := ((b1.set (.int .i64 0)).other (B' := w.heap.size + 1) (by omega) (.bool false)).cell
    have hd2 := ((b2.other (B' := w.heap.size) (by omega) (.int .i64 0)).set (.bool false)).cell
    generalize (W.setCell ⟨w.heap.size, 0, none⟩ (.int .i64 0)).setCell ⟨w.heap.size + 1, 0, none⟩ (.bool false) = W2 at *
    refine ⟨by simp, .inl ⟨_, _, rfl, run_takeDeferred hK2, ?_⟩⟩
    have he1 := cell_kept hd1 (grownBy_putObj' _ D (.deferred none)) (fun r e => by cases e; exact ⟨_, hK2, rfl⟩)
    have he2 := cell_kept hd2 (grownBy_putObj' _ D (.deferred none)) (fun r e => by cases e; exact ⟨_, hK2, rfl⟩)
    refine ⟨_, ?_, by rw [HN.out], hB2.trans (belowK_b (w := w) (Nat.le_refl _) W2 D _ _ (by simp at hD; omega) hK2 rfl rfl)⟩
    simp [results, Tryd.f36, go_sem, he1, he2, fstI, anyB]
  case stop =>
    rintro D c pre W hD hpre ⟨⟨rfl, b, rfl, b1, b2⟩, hB⟩ hK
    have hc1 := b1.cell
    have hc2 := b2.cell
    have HP : Hid (fstI (cpus x) = (b : Int) ∧ anyB (cpus x) = true) := by
      obtain ⟨t, ht⟩ := hpre
      unfold Hid
      rw [← ht]; exact ⟨rfl, rfl⟩
    clear bC bD bN hT hT0 hB0 hpre
    gi_wp2
    refine ⟨by simp, .inl ⟨_, _, rfl, run_takeDeferred hK, ?_⟩⟩
    have hd1 := cell_kept hc1 (grownBy_putObj' _ D (.deferred none)) (fun r e => by cases e; exact ⟨_, hK, rfl⟩)
    have hd2 := cell_kept hc2 (grownBy_putObj' _ D (.deferred none)) (fun r e => by cases e; exact ⟨_, hK, rfl⟩)
    refine ⟨_, ?_, by rw [HP.out.1, HP.out.2], hB.trans (belowK_b (w := w) (Nat.le_refl _) W D _ _ (by simp at hD; omega) hK rfl rfl)⟩
    simp [results, Tryd.f36, go_sem, hd1, hd2]

end Go.Proofs.YtjikabalpejmlaaDoor
