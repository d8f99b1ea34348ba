/-
  Contracts of layer 1's Mul, Div and Scale, of every argument in its kind's bounds.
-/
import Derived.Test.YtlfcnhggleagaaaDoorWideA
import Derived.Deep.QuietTactic
import Derived.BigQuiet
namespace Go.Proofs.YtlfcnhggleagaaaDoor
open Go.RowKit Go.Shelf Wd
attribute [local go_sem] Oper.semAt_some

theorem bd_stops (n : Nat) (hn : 1 ≤ n) (Bn : Nat) (x : Int) (hx : U x) (w : World) (hBn : Bn < w.heap.size) (hc : w.cell? ⟨Bn, 0, none⟩ = some (.int .u64 x)) :
    SeqStopsK Fence.wide n Tryd.prog 33 #[.pointer (some ⟨Bn, 0, none⟩)] (fun b : Bool => #[Value.int .u64 (b2i b)]) (KeepsCell Bn) (fun ys => ys = bitsUpto x 64)
      (fun pre => ∃ k, k ≤ 64 ∧ pre = bitsUpto x k) 64 w := fun l J Jx W hW _ _ hY h0 =>
  bd1_in Fence.wide n trivial rfl hn l Bn x hx J Jx hY W ((hW.cell (p := ⟨Bn, 0, none⟩) hBn).trans hc) h0

theorem keepsCell_set {n : Nat} {W : World} (b : Nat) (v : Value) (h : n ≠ b) : KeepsCell n W (W.setCell ⟨b, 0, none⟩ v) := World.cell?_setCell_other _ _ _ _ (fun e => h (by cases e; rfl))

set_option maxRecDepth 100000 in
set_option maxHeartbeats 2000000 in
theorem mul_any (a b : Int) (ha : U a) (hb : U b) (w : World) :
    Calls Tryd.prog 24 #[.int .u64 a, .int .u64 b] w fun e w' => e = .returned (.tuple #[.int .u64 (mulH a b), .int .u64 (mulL a b)]) ∧ Below w.heap.size w w' := by
  refine (callsIn_wide (n := 8)).1 ?_
  refine callsIn_of_wp_marks Tryd.func24 rfl trivial ?_ rfl
  simp only [Tryd.ntmps24, List.size_toArray, List.length_cons, List.length_nil, Nat.reduceAdd, Nat.reduceSub, Array.replicate_succ, Array.replicate_zero, List.push_toArray, List.append_toArray, List.nil_append, List.cons_append]
  gi_wp2_with (refine ⟨trivial, ?_⟩; gi_at_call 28; refine (callsIn_wide.2 (bd_any _ _)).mono ?_; rintro e w' ⟨rfl, rfl⟩)
  have bA := ((Boxed.new w 35 (.int .u64 a)).alloc (.cells #[.int .u64 0] 35)).alloc (.cells #[.int .u64 0] 35)
  have bH := (Boxed.new (w.alloc (.cells #[.int .u64 a] 35)) 35 (.int .u64 0)).alloc (.cells #[.int .u64 0] 35)
  have bL := Boxed.new ((w.alloc (.cells #[.int .u64 a] 35)).alloc (.cells #[.int .u64 0] 35)) 35 (.int .u64 0)
  have hB0 : Below w.heap.size w (((w.alloc (.cells #[.int .u64 a] 35)).alloc (.cells #[.int .u64 0] 35)).alloc (.cells #[.int .u64 0] 35)) := (((Below.refl _ w).alloc (Nat.le_refl _) _).alloc (by simp) _).alloc (by simp; omega) _
  have hsz : (((w.alloc (.cells #[.int .u64 a] 35)).alloc (.cells #[.int .u64 0] 35)).alloc (.cells #[.int .u64 0] 35)).heap.size = w.heap.size + 1 + 1 + 1 := by simp
  simp only [World.size_alloc] at bH bL ⊢
  generalize ((w.alloc (.cells #[.int .u64 a] 35)).alloc (.cells #[.int .u64 0] 35)).alloc (.cells #[.int .u64 0] 35) = W0 at *
  have bN := Boxed.new W0 35 (.int .u64 b)
  rw [hsz] at bN
  refine wpIn_rangeFunc_ownG rfl (by omega) (gf := 33) (lb := #[.pointer (some ⟨w.heap.size + 1 + 1 + 1, 0, none⟩)]) rfl trivial (enters_of Tryd.func33 (by kernel_rfl) rfl)
    (bd_stops 7 (by omega) (w.heap.size + 1 + 1 + 1) b hb _ (by simp [hsz]) bN.cell) keepsCell_t (keepsCell_b (by simp [hsz])) (Below.refl _ _) (fun _ => rfl)
    (fun pre W => (Boxed W w.heap.size 35 (.int .u64 a) ∧ Boxed W (w.heap.size + 1) 35 (.int .u64 (mulSt a pre).1) ∧ Boxed W (w.heap.size + 1 + 1) 35 (.int .u64 (mulSt a pre).2)) ∧ Below w.heap.size w W)
    (fun _ _ _ => False)
    (OwnFrom.and (Own.from (fun s A B row hs hg hr => ⟨boxed_own _ _ (fun _ => _) s A B row hs.1 hg hr, boxed_own _ _ (fun pre => .int .u64 (mulSt a pre).1) s A B row hs.2.1 hg hr, boxed_own _ _ (fun pre => .int .u64 (mulSt a pre).2) s A B row hs.2.2 hg hr⟩) _) (ownFrom_below (Nat.le_refl _) (by simp [hsz]; omega)))
    (fun _ _ _ _ _ hs _ _ => hs)
    ⟨⟨bA.alloc _, bH.alloc _, bL.alloc _⟩, hB0.alloc (by omega) _⟩
    (fun x => { tmps := #[.int .u64 a, .int .u64 b, .pointer (some ⟨w.heap.size, 0, none⟩), undef, .int .u64 0, .int .u64 0, .pointer (some ⟨w.heap.size + 1, 0, none⟩), .pointer (some ⟨w.heap.size + 1 + 1, 0, none⟩), .int .u64 (b2i x), .int .u64 b, .func (.func 33) #[] #[.pointer (some ⟨w.heap.size + 1 + 1 + 1, 0, none⟩)], .int .u64 (b2i x), undef, undef, undef, undef, undef, undef, undef, undef, undef, undef, undef, undef, undef, undef, undef, undef, undef], defers := [] }) ?assign ?body ?done ?stop
  case assign =>
    intro l x W K hK
    gi_wp2
    exact hK
  case body =>
    rintro l pre x W ⟨⟨b1, b2, b3⟩, hB⟩ _
    have hc1 := b1.cell
    have hc2 := b2.cell
    have hf2 := b2.frozen
    have hc3 := b3.cell
    have hf3 := b3.frozen
    obtain ⟨s, hs⟩ : ∃ s, mulSt a pre = s := ⟨_, rfl⟩
    have HS : Hid (mulSt a (pre ++ [x]) = mulStep a s x) := by rw [mulSt_snoc, hs]; rfl
    rw [hs] at b2 b3 hc2 hc3
    obtain ⟨h, l0⟩ := s
    dsimp only at b2 b3 hc2 hc3
    clear hs
    cases x
    · have e0 : b2i false = 0 := rfl
      gi_wp2_with (refine ⟨trivial, ?_⟩; gi_at_call 29; refine (CallsIn.inRound l (callsIn_wide.2 (dbl_any _ _ _))).mono ?_; rintro e w' ⟨rfl, rfl⟩)
      refine ⟨?_, ?_, ⟨?_, ?_, ?_⟩, ?_⟩
      · exact ((KeepsOthers.setCell _ _ _).trans (KeepsOthers.setCell _ _ _)).from _
      · exact keepsCell_t (keepsCell_set _ _ (by omega)) (keepsCell_set _ _ (by omega))
      · exact (b1.other (by omega) _).other (by omega) _
      · rw [HS.out]; exact (b2.set _).other (by omega) _
      · rw [HS.out]; exact (b3.other (by omega) _).set _
      · exact (hB.setCell (p := ⟨w.heap.size + 1, 0, none⟩) (by simp) _).setCell (p := ⟨w.heap.size + 1 + 1, 0, none⟩) (by simp; omega) _
    · have e1 : b2i true = 1 := rfl
      gi_wp2_with (first | (refine ⟨trivial, ?_⟩; gi_at_call 29; refine (CallsIn.inRound l (callsIn_wide.2 (dbl_any _ _ _))).mono ?_; rintro e w' ⟨rfl, rfl⟩) | (refine ⟨trivial, ?_⟩; gi_at_call 30; refine (CallsIn.inRound l (callsIn_wide.2 (add_any _ _ _ _))).mono ?_; rintro e w' ⟨rfl, rfl⟩))
      refine ⟨?_, ?_, ⟨?_, ?_, ?_⟩, ?_⟩
      · exact ((((KeepsOthers.setCell _ _ _).trans (KeepsOthers.setCell _ _ _)).trans (KeepsOthers.setCell _ _ _)).trans (KeepsOthers.setCell _ _ _)).from _
      · exact keepsCell_t (keepsCell_t (keepsCell_t (keepsCell_set _ _ (by omega)) (keepsCell_set _ _ (by omega))) (keepsCell_set _ _ (by omega))) (keepsCell_set _ _ (by omega))
      · exact (((b1.other (by omega) _).other (by omega) _).other (by omega) _).other (by omega) _
      · rw [HS.out]; exact (((b2.set _).other (by omega) _).set _).other (by omega) _
      · rw [HS.out]; exact (((b3.other (by omega) _).set _).other (by omega) _).set _
      · exact (((hB.setCell (p := ⟨w.heap.size + 1, 0, none⟩) (by simp) _).setCell (p := ⟨w.heap.size + 1 + 1, 0, none⟩) (by simp; omega) _).setCell (p := ⟨w.heap.size + 1, 0, none⟩) (by simp) _).setCell (p := ⟨w.heap.size + 1 + 1, 0, none⟩) (by simp; omega) _
  case done =>
    rintro D ys W hD rfl ⟨⟨b1, b2, b3⟩, hB⟩ hK
    have hc2 := b2.cell
    have hc3 := b3.cell
    have hfin := mulSt_all a b ha hb
    rw [hfin] at hc2 hc3
    dsimp only at hc2 hc3
    clear hfin
    have hmx : Tryd.prog.follows .mixedOrders = true := by kernel_rfl
    gi_wp2
    gi_region_o
    all_goals gi_wp2
    all_goals (refine ⟨by simp, .inl ⟨_, _, rfl, run_takeDeferred hK, ?_⟩⟩)
    exact ⟨_, results_tmp2 rfl _ _ _, rfl, hB.drew.trans (belowK_b (w := w) (Nat.le_refl _) W.drew D _ _ (by simp at hD; omega) hK rfl rfl)⟩
  case stop =>
    rintro D c pre W _ _ h _
    exact h.elim

set_option maxHeartbeats 400000 in
theorem div_zero (h l d : Int) (w : World) (h0 : (d == 0) = true) :
    Calls Tryd.prog 25 #[.int .u64 h, .int .u64 l, .int .u64 d] w fun e w' => e = .returned (.tuple #[.int .u64 0, .int .u64 0, .bool false]) ∧ Below w.heap.size w w' := by
  go_enter Tryd.func25, Tryd.ntmps25
  go_wp2
  go_ret3
  exact ⟨rfl, (Below.refl _ _).alloc (Nat.le_refl _) _⟩

set_option maxHeartbeats 400000 in
theorem div_over (h l d : Int) (w : World) (h0 : (d == 0) = false) (h1 : d ≤ h) :
    Calls Tryd.prog 25 #[.int .u64 h, .int .u64 l, .int .u64 d] w fun e w' => e = .returned (.tuple #[.int .u64 0, .int .u64 0, .bool false]) ∧ Below w.heap.size w w' := by
  go_enter Tryd.func25, Tryd.ntmps25
  go_wp2
  go_ret3
  exact ⟨rfl, (Below.refl _ _).alloc (Nat.le_refl _) _⟩

set_option maxRecDepth 100000 in
set_option maxHeartbeats 4000000 in
theorem div_yes (h l d : Int) (hh : U h) (hl : U l) (hd : U d) (w : World) (h0 : (d == 0) = false) (h1 : h < d) :
    Calls Tryd.prog 25 #[.int .u64 h, .int .u64 l, .int .u64 d] w fun e w' => e = .returned (.tuple #[.int .u64 (divQ h l d), .int .u64 (divR h l d), .bool true]) ∧ Below w.heap.size w w' := by
  have h1' : decide (d ≤ h) = false := by simp; omega
  refine (callsIn_wide (n := 8)).1 ?_
  refine callsIn_of_wp_marks Tryd.func25 rfl trivial ?_ rfl
  simp only [Tryd.ntmps25, List.size_toArray, List.length_cons, List.length_nil, Nat.reduceAdd, Nat.reduceSub, Array.replicate_succ, Array.replicate_zero, List.push_toArray, List.append_toArray, List.nil_append, List.cons_append]
  gi_wp2_with (refine ⟨trivial, ?_⟩; gi_at_call 28; refine (callsIn_wide.2 (bd_any _ _)).mono ?_; rintro e w' ⟨rfl, rfl⟩)
  have bA := ((Boxed.new w 35 (.int .u64 d)).alloc (.cells #[.int .u64 0] 35)).alloc (.cells #[.int .u64 h] 35)
  have bH := (Boxed.new (w.alloc (.cells #[.int .u64 d] 35)) 35 (.int .u64 0)).alloc (.cells #[.int .u64 h] 35)
  have bL := Boxed.new ((w.alloc (.cells #[.int .u64 d] 35)).alloc (.cells #[.int .u64 0] 35)) 35 (.int .u64 h)
  have hB0 : Below w.heap.size w (((w.alloc (.cells #[.int .u64 d] 35)).alloc (.cells #[.int .u64 0] 35)).alloc (.cells #[.int .u64 h] 35)) := (((Below.refl _ w).alloc (Nat.le_refl _) _).alloc (by simp) _).alloc (by simp; omega) _
  have hsz : (((w.alloc (.cells #[.int .u64 d] 35)).alloc (.cells #[.int .u64 0] 35)).alloc (.cells #[.int .u64 h] 35)).heap.size = w.heap.size + 1 + 1 + 1 := by simp
  simp only [World.size_alloc] at bH bL ⊢
  generalize ((w.alloc (.cells #[.int .u64 d] 35)).alloc (.cells #[.int .u64 0] 35)).alloc (.cells #[.int .u64 h] 35) = W0 at *
  have bN := Boxed.new W0 35 (.int .u64 l)
  rw [hsz] at bN
  refine wpIn_rangeFunc_ownG rfl (by omega) (gf := 33) (lb := #[.pointer (some ⟨w.heap.size + 1 + 1 + 1, 0, none⟩)]) rfl trivial (enters_of Tryd.func33 (by kernel_rfl) rfl)
    (bd_stops 7 (by omega) (w.heap.size + 1 + 1 + 1) l hl _ (by simp [hsz]) bN.cell) keepsCell_t (keepsCell_b (by simp [hsz])) (Below.refl _ _) (fun _ => rfl)
    (fun pre W => (Boxed W w.heap.size 35 (.int .u64 d) ∧ Boxed W (w.heap.size + 1) 35 (.int .u64 (divSt h d pre).2) ∧ Boxed W (w.heap.size + 1 + 1) 35 (.int .u64 (divSt h d pre).1)) ∧ Below w.heap.size w W)
    (fun _ _ _ => False)
    (OwnFrom.and (Own.from (fun s A B row hs hg hr => ⟨boxed_own _ _ (fun _ => _) s A B row hs.1 hg hr, boxed_own _ _ (fun pre => .int .u64 (divSt h d pre).2) s A B row hs.2.1 hg hr, boxed_own _ _ (fun pre => .int .u64 (divSt h d pre).1) s A B row hs.2.2 hg hr⟩) _) (ownFrom_below (Nat.le_refl _) (by simp [hsz]; omega)))
    (fun _ _ _ _ _ hs _ _ => hs)
    ⟨⟨bA.alloc _, bH.alloc _, bL.alloc _⟩, hB0.alloc (by omega) _⟩
    (fun x => { tmps := #[.int .u64 h, .int .u64 l, .int .u64 d, undef, undef, .pointer (some ⟨w.heap.size, 0, none⟩), .int .u64 0, .int .u64 0, .bool false, .pointer (some ⟨w.heap.size + 1, 0, none⟩), .pointer (some ⟨w.heap.size + 1 + 1, 0, none⟩), .int .u64 (b2i x), undef, .int .u64 d, .bool false, .bool false, .int .u64 h, .int .u64 d, .bool false, .bool false, .int .u64 h, .int .u64 l, .func (.func 33) #[] #[.pointer (some ⟨w.heap.size + 1 + 1 + 1, 0, none⟩)], .int .u64 (b2i x), undef, undef, undef, undef, undef, undef, undef, undef, undef, undef, undef, undef, undef, undef, undef, undef, undef, undef, undef, undef, undef, undef], defers := [] }) ?assign ?body ?done ?stop
  case assign =>
    intro l x W K hK
    gi_wp2
    exact hK
  case body =>
    rintro l pre x W ⟨⟨b1, b2, b3⟩, hB⟩ _
    have hc1 := b1.cell
    have hc2 := b2.cell
    have hf2 := b2.frozen
    have hc3 := b3.cell
    have hf3 := b3.frozen
    obtain ⟨s, hs⟩ : ∃ s, divSt h d pre = s := ⟨_, rfl⟩
    have HS : Hid (divSt h d (pre ++ [x]) = divStep d s x) := by rw [divSt_snoc, hs]; rfl
    rw [hs] at b2 b3 hc2 hc3
    obtain ⟨r, q⟩ := s
    dsimp only at b2 b3 hc2 hc3
    clear hs h1' h0 bA bH bL bN hB0
    by_cases ho : r / 9223372036854775808 = 1
    · have HT : Hid (divSt h d (pre ++ [x]) = (divR2 r d x, divQ2 q)) := by unfold Hid; rw [HS.out]; unfold divStep; rw [if_pos (.inl ho)]
      have ho' : (r / 9223372036854775808 == 1) = true := by simp [ho]
      clear HS ho
      gi_wp2
      refine ⟨?_, ?_, ⟨?_, ?_, ?_⟩, ?_⟩
      · exact ((((KeepsOthers.setCell _ _ _).trans (KeepsOthers.setCell _ _ _)).trans (KeepsOthers.setCell _ _ _)).trans (KeepsOthers.setCell _ _ _)).from _
      · exact keepsCell_t (keepsCell_t (keepsCell_t (keepsCell_set _ _ (by omega)) (keepsCell_set _ _ (by omega))) (keepsCell_set _ _ (by omega))) (keepsCell_set _ _ (by omega))
      · exact (((b1.other (by omega) _).other (by omega) _).other (by omega) _).other (by omega) _
      · rw [HT.out]; exact (((b2.other (by omega) _).set _).other (by omega) _).set _
      · rw [HT.out]; exact (((b3.set _).other (by omega) _).set _).other (by omega) _
      · exact (((hB.setCell (p := ⟨w.heap.size + 1 + 1, 0, none⟩) (by simp; omega) _).setCell (p := ⟨w.heap.size + 1, 0, none⟩) (by simp) _).setCell (p := ⟨w.heap.size + 1 + 1, 0, none⟩) (by simp; omega) _).setCell (p := ⟨w.heap.size + 1, 0, none⟩) (by simp) _
    · have ho' : (r / 9223372036854775808 == 1) = false := by simp [ho]
      by_cases hg : d ≤ divR1 r x
      · have HT : Hid (divSt h d (pre ++ [x]) = (divR2 r d x, divQ2 q)) := by unfold Hid; rw [HS.out]; unfold divStep; rw [if_pos (.inr hg)]
        have hg' : decide (d ≤ bits BinOp.or IntKind.u64 (IntKind.u64.wrap (r * 2)) (b2i x)) = true := decide_eq_true hg
        clear HS ho hg
        gi_wp2
        refine ⟨?_, ?_, ⟨?_, ?_, ?_⟩, ?_⟩
        · exact ((((KeepsOthers.setCell _ _ _).trans (KeepsOthers.setCell _ _ _)).trans (KeepsOthers.setCell _ _ _)).trans (KeepsOthers.setCell _ _ _)).from _
        · exact keepsCell_t (keepsCell_t (keepsCell_t (keepsCell_set _ _ (by omega)) (keepsCell_set _ _ (by omega))) (keepsCell_set _ _ (by omega))) (keepsCell_set _ _ (by omega))
        · exact (((b1.other (by omega) _).other (by omega) _).other (by omega) _).other (by omega) _
        · rw [HT.out]; exact (((b2.other (by omega) _).set _).other (by omega) _).set _
        · rw [HT.out]; exact (((b3.set _).other (by omega) _).set _).other (by omega) _
        · exact (((hB.setCell (p := ⟨w.heap.size + 1 + 1, 0, none⟩) (by simp; omega) _).setCell (p := ⟨w.heap.size + 1, 0, none⟩) (by simp) _).setCell (p := ⟨w.heap.size + 1 + 1, 0, none⟩) (by simp; omega) _).setCell (p := ⟨w.heap.size + 1, 0, none⟩) (by simp) _
      · have HT : Hid (divSt h d (pre ++ [x]) = (divR1 r x, divQ1 q)) := by unfold Hid; rw [HS.out]; unfold divStep; rw [if_neg (by rintro (k | k); exact ho k; exact hg k)]
        have hg' : decide (d ≤ bits BinOp.or IntKind.u64 (IntKind.u64.wrap (r * 2)) (b2i x)) = false := decide_eq_false hg
        clear HS ho hg
        gi_wp2
        refine ⟨?_, ?_, ⟨?_, ?_, ?_⟩, ?_⟩
        · exact ((KeepsOthers.setCell _ _ _).trans (KeepsOthers.setCell _ _ _)).from _
        · exact keepsCell_t (keepsCell_set _ _ (by omega)) (keepsCell_set _ _ (by omega))
        · exact (b1.other (by omega) _).other (by omega) _
        · rw [HT.out]; exact (b2.other (by omega) _).set _
        · rw [HT.out]; exact (b3.set _).other (by omega) _
        · exact (hB.setCell (p := ⟨w.heap.size + 1 + 1, 0, none⟩) (by simp; omega) _).setCell (p := ⟨w.heap.size + 1, 0, none⟩) (by simp) _
  case done =>
    rintro D ys W hD rfl ⟨⟨b1, b2, b3⟩, hB⟩ hK
    have hc2 := b2.cell
    have hc3 := b3.cell
    have hfin := divSt_all h l d hh hl hd h1
    rw [hfin] at hc2 hc3
    dsimp only at hc2 hc3
    clear hfin
    have hmx : Tryd.prog.follows .mixedOrders = true := by kernel_rfl
    gi_wp2
    gi_region_o
    all_goals gi_wp2
    all_goals (refine ⟨by simp, .inl ⟨_, _, rfl, run_takeDeferred hK, ?_⟩⟩)
    exact ⟨_, results_tmp3 rfl _ _ _, rfl, hB.drew.trans (belowK_b (w := w) (Nat.le_refl _) W.drew D _ _ (by simp at hD; omega) hK rfl rfl)⟩
  case stop =>
    rintro D c pre W _ _ h _
    exact h.elim

/-- **Div, at all arguments.** -/
theorem div_any (h l d : Int) (hh : U h) (hl : U l) (hd : U d) (w : World) :
    Calls Tryd.prog 25 #[.int .u64 h, .int .u64 l, .int .u64 d] w fun e w' => e = .returned (.tuple #[.int .u64 (divQq h l d), .int .u64 (divRr h l d), .bool (divOk h d)]) ∧ Below w.heap.size w w' := by
  by_cases h0 : d = 0
  · have hk : divOk h d = false := by simp [divOk, h0]
    unfold divQq divRr
    rw [hk]
    exact div_zero h l d w (by simp [h0])
  · by_cases h1 : h < d
    · have hk : divOk h d = true := by simp [divOk, h0, h1]
      unfold divQq divRr
      rw [hk]
      exact div_yes h l d hh hl hd w (by simp [h0]) h1
    · have hk : divOk h d = false := by simp [divOk, h0]; omega
      unfold divQq divRr
      rw [hk]
      exact div_over h l d w (by simp [h0]) (by omega)

set_option maxHeartbeats 400000 in
/-- **Scale, at all arguments.** -/
theorem scale_any (a b d : Int) (ha : U a) (hb : U b) (hd : U d) (w : World) :
    Calls Tryd.prog 22 #[.int .u64 a, .int .u64 b, .int .u64 d] w fun e w' => e = .returned (.int .u64 (scl a b d)) ∧ Below w.heap.size w w' := by
  have hH := U_mulH a b ha hb
  have hL := U_mulL a b
  cases hk : divOk (mulH a b) d with
  | true =>
    have HF : Hid (scl a b d = divQq (mulH a b) (mulL a b) d) := by unfold Hid scl divQq; rw [hk]; rfl
    have HK : Hid (divOk (mulH a b) d = true) := hk
    clear hk
    go_enter Tryd.func22, Tryd.ntmps22
    go_wp2_with fail
    refine (mul_any a b ha hb _).mono ?_
    rintro e w1 ⟨rfl, hb1⟩
    go_wp2_with fail
    refine (div_any _ _ d hH hL hd _).mono ?_
    rintro e w2 ⟨rfl, hb2⟩
    rw [HK.out]
    go_wp2
    go_ret
    exact ⟨by rw [HF.out]; rfl, hb1.trans (hb2.mono hb1.size)⟩
  | false =>
    have HF : Hid (scl a b d = 18446744073709551615) := by unfold Hid scl; rw [hk]; rfl
    have HK : Hid (divOk (mulH a b) d = false) := hk
    clear hk
    go_enter Tryd.func22, Tryd.ntmps22
    go_wp2_with fail
    refine (mul_any a b ha hb _).mono ?_
    rintro e w1 ⟨rfl, hb1⟩
    go_wp2_with fail
    refine (div_any _ _ d hH hL hd _).mono ?_
    rintro e w2 ⟨rfl, hb2⟩
    rw [HK.out]
    go_wp2
    go_ret
    exact ⟨by rw [HF.out]; rfl, hb1.trans (hb2.mono hb1.size)⟩

end Go.Proofs.YtlfcnhggleagaaaDoor
