/-
  Contracts of turnspitref08's First, Sorted, at, put, Sort, Put and Drop: the document's own answers for keys.
-/
import Derived.Test.YtgjacmkedgbneaaKyR
import Derived.Deep.RegionHeld3
namespace Go.Proofs.Ytgjacmkedgbneaa
open Go.RowKit Go.Sort Wd Tn Ky

/-! ### at -/
/-- What at tells. -/
def atI (id : Int) (l : List K) : Int := if idxK id l < l.length then (idxK id l : Int) else -1
theorem at_none (id : Int) (a : Option Addr) (cap : Nat) (W : World) : Calls Try.prog 55 #[.slice a 0 cap, .int .i64 id] W fun e w' => e = .returned (.int .i64 (-1)) ∧ W = w' := by
  go_enter Try.func55, Try.ntmps55
  go_wp2
  refine wp_loop_rounds 1 ?_
  rw [rounds_succ]
  go_wp2
  go_ret
  exact ⟨rfl, rfl⟩
set_option maxHeartbeats 400000 in
theorem at_some (id : Int) {l : List K} {W : World} {b off cap : Nat} (hl : l.length ≤ maxLen)
    (hc : ∀ i, i < l.length → W.cell? ⟨b, off + i * 2, none⟩ = some (.int .u64 (l.getD i (0, 0)).1) ∧ W.cell? ⟨b, off + i * 2 + 1, none⟩ = some (.int .i64 (l.getD i (0, 0)).2)) :
    Calls Try.prog 55 #[.slice (some ⟨b, off, none⟩) l.length cap, .int .i64 id] W fun e w' => e = .returned (.int .i64 (atI id l)) ∧ W = w' := by
  have HC := Lib.hid hc
  obtain ⟨r, hr⟩ : ∃ r, atI id l = r := ⟨_, rfl⟩
  rw [hr]
  have HR := Lib.hid hr
  unfold maxLen at hl
  clear hc hr
  go_enter Try.func55, Try.ntmps55
  go_wp2
  go_loop [5] (fun i => ∃ k : Nat, k ≤ l.length ∧ i = .int .i64 k ∧ Hid (∀ j, j < k → (l.getD j (0, 0)).2 ≠ id)) (fun i => l.length - (intOf i).toNat)
  case atStart => exact ⟨0, by omega, rfl, Lib.hid (fun j hj => absurd hj (Nat.not_lt_zero _))⟩
  case round =>
    obtain ⟨k, hk, rfl, HK⟩ := hrel
    by_cases hlt : k < l.length
    · have c1 := (HC.out k hlt).2
      by_cases he : (l.getD k (0, 0)).2 = id
      · have HE : Hid (r = (k : Int)) := Lib.hid (by
          rw [← HR.out]
          unfold atI
          rw [idxK_at hlt he HK.out, if_pos hlt])
        generalize (l.getD k (0, 0)).2 = y at c1 he
        have e1 : (y == id) = true := by simpa using he
        clear he
        go_wp2
        go_ret
        exact ⟨by rw [HE.out]; rfl, rfl⟩
      · have HN : Hid (∀ j, j < k + 1 → (l.getD j (0, 0)).2 ≠ id) := Lib.hid (fun j hj => by
          rcases (show j < k ∨ j = k by omega) with h | rfl
          · exact HK.out j h
          · exact he)
        generalize (l.getD k (0, 0)).2 = y at c1 he
        have e1 : (y == id) = false := by simpa using he
        clear he
        go_wp2
        go_round
        case rel => exact ⟨k + 1, by omega, by go_num, HN⟩
        case measure => simp [intOf]; omega
    · obtain rfl : k = l.length := by omega
      have HE : Hid (r = -1) := Lib.hid (by
        rw [← HR.out]
        unfold atI
        rw [idxK_none HK.out, if_neg (Nat.lt_irrefl _)])
      go_wp2
      go_ret
      exact ⟨by rw [HE.out]; rfl, rfl⟩
theorem at_any (id : Int) {W : World} {v : Value} {l : List K} (h : Keys W v l) : Calls Try.prog 55 #[v, .int .i64 id] W fun e w' => e = .returned (.int .i64 (atI id l)) ∧ W = w' := by
  rcases h.parts with ⟨rfl, a, cap, rfl⟩ | ⟨hp, b, off, cap, rfl, hcap, hb, hc⟩
  · exact at_none id a cap W
  · exact at_some id (by omega) hc

/-! ### First -/
end Go.Proofs.Ytgjacmkedgbneaa
