/-
  Contract of turnspitref04.Ints at two lists that are the same; turnspitlaw11.awake is true.
-/
import Derived.Test.YthbabhmpkniliaaLkL
import Derived.Test.YthbabhmpkniliaaLkU
namespace Go.Proofs.Ythbabhmpkniliaa
open Go.RowKit Go.ChangeAt Go.ChangeShapes Go.WideShapes Go.Sort Lk

theorem rints_same (v u : Value) (zs : List Int) (w : World) (hv : Ints .i64 w v zs) (hu : Ints .i64 w u zs) :
    Calls Try.prog 19 #[v, u] w fun e w' => e = .returned (.bool true) ∧ Below w.heap.size w w' := by
  rcases hv.parts with ⟨rfl, a, cap, rfl⟩ | ⟨hp, hm, b, off, cap, rfl, hbw, hc⟩
  · rcases hu.parts with ⟨_, a', cap', rfl⟩ | ⟨hp, _⟩
    · go_enter Try.func19, Try.ntmps19
      go_wp2
      go_loop [5] (fun i => i = .int .i64 0) (fun _ => 0)
      case atStart => rfl
      case round =>
        subst hrel
        go_wp2
        go_ret
        exact ⟨rfl, Below.refl _ _⟩
    · simp at hp
  · rcases hu.parts with ⟨e, _⟩ | ⟨-, -, b', off', cap', rfl, hbw', hc'⟩
    · rw [e] at hp; simp at hp
    · clear hv hu
      have hl : zs.length ≤ 9223372036854775807 := by unfold maxLen at hm; omega
      clear hm
      generalize zs.length = n at *
      have hnn : (((n : Int) != (n : Int)) = false) := by simp
      go_enter Try.func19, Try.ntmps19
      go_wp2
      go_loopw [5] (fun i wr => ∃ k : Nat, k ≤ n ∧ i = .int .i64 k ∧ Below w.heap.size w wr) (fun i _ => n - (intOf i).toNat)
      case atStart => exact ⟨0, by omega, rfl, Below.refl _ _⟩
      case round =>
        obtain ⟨k, hk, rfl, hnx⟩ := hrel
        by_cases hlt : k < n
        · have hck : wr.cell? ⟨b, off + k, none⟩ = some (.int .i64 (zs.getD k 0)) := by rw [hnx.cell (p := ⟨b, off + k, none⟩) hbw]; exact hc k hlt
          have hck' : wr.cell? ⟨b', off' + k, none⟩ = some (.int .i64 (zs.getD k 0)) := by rw [hnx.cell (p := ⟨b', off' + k, none⟩) hbw']; exact hc' k hlt
          clear hc hc'
          generalize zs.getD k 0 = z at *
          have hzz : ((z != z) = false) := by simp
          go_wp2
          go_quiet (fail)
          go_wp2
          exact ⟨⟨k + 1, by omega, by go_num, below_drewN hnx _⟩, by simp [intOf]; omega⟩
        · obtain rfl : k = n := by omega
          clear hc hc'
          go_wp2
          go_ret
          exact ⟨rfl, hnx⟩


def a11J : List (List Pr) := [[(0, 1)], [(1, 0)]]
def a11W : List Wt := [([0, 1], -1), ([], 0)]
def a11V : List Wt := [([0], 1), ([1], 0)]
theorem a11_e : playE 2 a11J = 0 := by decide
theorem a11_s : playS 2 a11J true [0, 1, 0, 1] = ⟨[0, 0], a11J, [[0, 1], []], []⟩ := by rfl
theorem a11_t : playS 2 a11J false [0, 1, 0, 1] = ⟨[0, 1], a11J, [[0], [1]], []⟩ := by rfl
theorem a11_w : waitF true ⟨[0, 0], a11J, [[0, 1], []], []⟩ = a11W := by rfl
theorem a11_v : waitF false ⟨[0, 1], a11J, [[0], [1]], []⟩ = a11V := by rfl
theorem a11_okW : okW a11W := by
  refine ⟨⟨by decide, by decide⟩, fun i hi => ?_⟩
  have : i < 2 := hi
  rcases (show i = 0 ∨ i = 1 by omega) with rfl | rfl <;> decide
theorem a11_okV : okW a11V := by
  refine ⟨⟨by decide, by decide⟩, fun i hi => ?_⟩
  have : i < 2 := hi
  rcases (show i = 0 ∨ i = 1 by omega) with rfl | rfl <;> decide
theorem a11_noW : ∀ i, ¬ Dead a11W i := by
  have h0 : ¬ Dead a11W 0 := fun h => by
    obtain ⟨-, j, hj, hm⟩ := Dead.closed a11W 0 h
    obtain ⟨h1, -⟩ := Dead.closed a11W j hj
    have h1 : j < 2 := h1
    rcases (show j = 0 ∨ j = 1 by omega) with rfl | rfl <;> revert hm <;> decide
  intro i h
  obtain ⟨h1, j, hj, hm⟩ := Dead.closed a11W i h
  obtain ⟨h2, -⟩ := Dead.closed a11W j hj
  have h1 : i < 2 := h1
  have h2 : j < 2 := h2
  rcases (show j = 0 ∨ j = 1 by omega) with rfl | rfl
  · exact h0 hj
  · rcases (show i = 0 ∨ i = 1 by omega) with rfl | rfl <;> revert hm <;> decide
theorem a11_allV : ∀ i, i < 2 → Dead a11V i := fun i hi => ⟨fun k => k < 2, fun k hk => ⟨hk, by
  have hk : k < 2 := hk
  rcases (show k = 0 ∨ k = 1 by omega) with rfl | rfl
  · exact ⟨1, by omega, by decide⟩
  · exact ⟨0, by omega, by decide⟩⟩, hi⟩
theorem a11_sW : stuckE a11W = 0 ∧ stuckR a11W = [] := by
  have h : stuckE a11W = 0 := by unfold stuckE; rw [if_neg (by decide), if_pos a11_okW]
  refine ⟨h, ?_⟩
  unfold stuckR
  rw [if_pos h]
  show deadL a11W 2 = []
  rw [deadL_no (a11_noW 1), deadL_no (a11_noW 0)]
  rfl
theorem a11_sV : stuckE a11V = 0 ∧ stuckR a11V = [0, 1] := by
  have h : stuckE a11V = 0 := by unfold stuckE; rw [if_neg (by decide), if_pos a11_okV]
  refine ⟨h, ?_⟩
  unfold stuckR
  rw [if_pos h]
  show deadL a11V 2 = [0, 1]
  rw [deadL_yes (a11_allV 1 (by omega)), deadL_yes (a11_allV 0 (by omega))]
  rfl

theorem cell2_new (w : World) (t : TypeId) (x y : Value) : (w.alloc (.cells #[x, y] t)).cell? ⟨w.heap.size, 0, none⟩ = some x ∧ (w.alloc (.cells #[x, y] t)).cell? ⟨w.heap.size, 1, none⟩ = some y := by
  constructor <;> (rw [World.cell?_alloc_at _ _ _ _ rfl]; rfl)
theorem ps_one (w : World) (t : TypeId) (x y : Int) (hx : I x) (hy : I y) : Ps (w.alloc (.cells #[.int .i64 x, .int .i64 y] t)) (.slice (some ⟨w.heap.size, 0, none⟩) 1 1) [(x, y)] := by
  refine ⟨_, _, rfl, ⟨Nat.le_refl _, by unfold maxLen; omega⟩, by simp; exact ⟨hx, hy⟩, fun _ => ⟨_, 0, rfl, fun i hi => ?_⟩⟩
  have : i = 0 := by simp at hi; omega
  subst this
  exact cell2_new w t (.int .i64 x) (.int .i64 y)
theorem jbs_two (W : World) (t u : TypeId) : Jbs (((W.alloc (.cells #[.int .i64 0, .int .i64 1] t)).alloc (.cells #[.int .i64 1, .int .i64 0] t)).alloc (.cells #[.slice (some ⟨W.heap.size, 0, none⟩) 1 1, .slice (some ⟨W.heap.size + 1, 0, none⟩) 1 1] u)) (.slice (some ⟨W.heap.size + 1 + 1, 0, none⟩) 2 2) a11J := by
  have p0 := ps_one W t 0 1 (by unfold I; omega) (by unfold I; omega)
  have p1 := ps_one (W.alloc (.cells #[.int .i64 0, .int .i64 1] t)) t 1 0 (by unfold I; omega) (by unfold I; omega)
  rw [heap_size_alloc] at p1
  have gr : ∀ (w : World) (o : Obj), Below w.heap.size w (w.alloc o) := fun w o => (Below.refl _ _).alloc (Nat.le_refl _) _
  have c := cell2_new ((W.alloc (.cells #[.int .i64 0, .int .i64 1] t)).alloc (.cells #[.int .i64 1, .int .i64 0] t)) u (.slice (some ⟨W.heap.size, 0, none⟩) 1 1) (.slice (some ⟨W.heap.size + 1, 0, none⟩) 1 1)
  rw [heap_size_alloc, heap_size_alloc] at c
  refine ⟨_, _, rfl, ⟨Nat.le_refl _, by unfold maxLen; omega⟩, fun _ => ⟨_, 0, rfl, fun i hi => ?_⟩⟩
  have hi : i < 2 := hi
  rcases (show i = 0 ∨ i = 1 by omega) with rfl | rfl
  · exact ⟨_, c.1, (p0.below (gr _ _)).below (gr _ _)⟩
  · exact ⟨_, c.2, p1.below (gr _ _)⟩
end Go.Proofs.Ythbabhmpkniliaa
