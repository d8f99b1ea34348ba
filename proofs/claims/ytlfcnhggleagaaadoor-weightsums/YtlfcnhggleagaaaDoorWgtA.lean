/-
  Contracts of layer 2's Of, Nice, Delta, Sum and Share, of every argument in its kind's bounds, in every world that holds the table of weights.
-/
import Derived.Test.YtlfcnhggleagaaaDoorWideB
import Derived.Test.YtlfcnhggleagaaaDoorWgtM
import Derived.Test.YtlfcnhggleagaaaDoorSl
import Derived.Lib.LaidTab
namespace Go.Proofs.YtlfcnhggleagaaaDoor
open Go.RowKit Go.Shelf Wd Wg

/-- The table of weights lies in the world. -/
def Tab (w : World) : Prop := ∀ i, i < 40 → w.cell? ⟨0, i, none⟩ = some (.int .i64 (tab.getD i 0))
theorem Tab.below {w w' : World} (h : Tab w) (hb : Below w.heap.size w w') : Tab w' := fun i hi => by
  rw [hb.cell (p := ⟨0, i, none⟩) (World.block_lt_of_cell? w ⟨0, i, none⟩ (h i hi))]
  exact h i hi

set_option maxHeartbeats 400000 in
theorem of_yes (n : Int) (h : isNice n) (w : World) (hT : Tab w) :
    Calls Tryd.prog 10 #[.int .i64 n] w fun e w' => e = .returned (.tuple #[.int .i64 (wt n), .int .i64 0]) ∧ w = w' := by
  obtain ⟨k, rfl⟩ : ∃ k : Nat, n = (k : Int) - 20 := ⟨(n + 20).toNat, by unfold isNice at h; omega⟩
  have hk : k < 40 := by unfold isNice at h; omega
  have hc := hT k hk
  rw [wt_at]
  clear h hT
  have h1 : (-20 : Int) ≤ (k : Int) - 20 := by omega
  have h2 : (k : Int) - 20 ≤ 19 := by omega
  generalize tab.getD k 0 = x at *
  go_enter Tryd.func10, Tryd.ntmps10
  go_wp2
  go_ret2
  exact ⟨rfl, rfl⟩

set_option maxHeartbeats 400000 in
theorem of_no (n : Int) (h : ¬ isNice n) (w : World) :
    Calls Tryd.prog 10 #[.int .i64 n] w fun e w' => e = .returned (.tuple #[.int .i64 0, .int .i64 1]) ∧ w = w' := by
  by_cases h1 : n < -20
  · clear h
    go_enter Tryd.func10, Tryd.ntmps10
    go_wp2
    go_ret2
    exact ⟨rfl, rfl⟩
  · have h2 : 19 < n := by unfold isNice at h; omega
    clear h
    go_enter Tryd.func10, Tryd.ntmps10
    go_wp2
    go_ret2
    exact ⟨rfl, rfl⟩

theorem of_any (n : Int) (w : World) (hT : Tab w) :
    Calls Tryd.prog 10 #[.int .i64 n] w fun e w' => e = .returned (.tuple #[.int .i64 (ofW n), .int .i64 (ofE n)]) ∧ w = w' := by
  unfold ofW ofE
  by_cases h : isNice n
  · rw [if_pos h, if_pos h]; exact of_yes n h w hT
  · rw [if_neg h, if_neg h]; exact of_no n h w

set_option maxHeartbeats 400000 in
theorem nice_any (x : Int) (w : World) (hT : Tab w) :
    Calls Tryd.prog 15 #[.int .i64 x] w fun e w' => e = .returned (.int .i64 (niceOf x)) ∧ w = w' := by
  unfold niceOf
  go_enter Tryd.func15, Tryd.ntmps15
  go_wp2
  go_loop [4] (fun i => ∃ k : Nat, k ≤ 40 ∧ i = .int .i64 k ∧ ∀ j, j < k → x < tab.getD j 0) (fun i => 40 - (intOf i).toNat)
  case atStart => exact ⟨0, by omega, rfl, fun j hj => absurd hj (Nat.not_lt_zero _)⟩
  case round =>
    obtain ⟨k, hk, rfl, hb⟩ := hrel
    have HB := Lib.hid hb
    clear hb
    by_cases hlt : k < 40
    · have hc := hT k hlt
      clear hT
      by_cases ht : tab.getD k 0 ≤ x
      · have HX : Hid (nix x = k) := by
          refine nix_eq x k (by omega) HB.out (fun _ => ht)
        generalize tab.getD k 0 = t at *
        go_wp2
        go_ret
        exact ⟨by rw [HX.out]; go_num, rfl⟩
      · have HS : Hid (∀ j, j < k + 1 → x < tab.getD j 0) := fun j hj => by
          by_cases e : j = k
          · subst e; omega
          · exact HB.out j (by omega)
        generalize tab.getD k 0 = t at *
        go_wp2
        exact ⟨⟨k + 1, by omega, by go_num, HS.out⟩, by simp [intOf]; omega⟩
    · have HX : Hid (nix x = 39) := nix_eq x 39 (by omega) (fun j hj => HB.out j (by omega)) (fun h => absurd h (by omega))
      clear hT
      obtain rfl : k = 40 := by omega
      go_wp2
      go_ret
      exact ⟨by rw [HX.out]; rfl, rfl⟩

end Go.Proofs.YtlfcnhggleagaaaDoor
