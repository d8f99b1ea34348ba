/-
  Contracts of turnspitref04's List, Next, First, Round and Ints.
-/
import Derived.Test.YtnjbcblhciblcaaMskR
import Derived.Test.YtnjbcblhciblcaaSlA
import Derived.Deep.QuietTactic
import Derived.BigQuiet
import Derived.WalkSmall
namespace Go.Proofs.Ytnjbcblhciblcaa
open Go.RowKit Go.Shelf Mk

theorem ints_info : (Try.prog.info? 3).map (fun i => (i.zero, i.size, i.bytes)) = some (some (.int .i64 0), 1, 8) := by kernel_rfl

def upto (x k : Nat) : List Int := ints ((List.range k).filter (fun i => x.testBit i))
theorem upto_all (x : Nat) : upto x 64 = ints (cpus x) := rfl
theorem upto_yes (x k : Nat) (h : x.testBit k = true) : upto x (k + 1) = upto x k ++ [(k : Int)] := by
  unfold upto ints; rw [List.range_succ, List.filter_append, List.map_append]; simp [h]
theorem upto_no (x k : Nat) (h : x.testBit k = false) : upto x (k + 1) = upto x k := by
  unfold upto ints; rw [List.range_succ, List.filter_append, List.map_append]; simp [h]
theorem upto_len (x k : Nat) : (upto x k).length ≤ k := by
  unfold upto ints
  rw [List.length_map]
  have := List.length_filter_le (fun i => x.testBit i) (List.range k)
  simpa using this
theorem ints_wf (x : Nat) : ∀ z ∈ ints (cpus x), (Lit.int .i64 z).wf = true := by
  intro z hz
  unfold ints at hz
  obtain ⟨i, hi, rfl⟩ := List.mem_map.1 hz
  have := cpus_lt hi
  exact i64_wf (by omega)
theorem ints_length (l : List Nat) : (ints l).length = l.length := by unfold ints; rw [List.length_map]

/-! ### the first one above c -/
theorem filt_at (c : Int) : ∀ (l : List Nat) (k : Nat), k < l.length → (∀ j, j < k → (ints l).getD j 0 ≤ c) → c < (ints l).getD k 0 →
    fstI (l.filter (fun (i : Nat) => decide (c < (i : Int)))) = (ints l).getD k 0 ∧ anyB (l.filter (fun (i : Nat) => decide (c < (i : Int)))) = true
  | [], k, hk, _, _ => absurd hk (Nat.not_lt_zero _)
  | a :: t, 0, _, _, h1 => by
    have h : c < (a : Int) := by simpa [ints] using h1
    rw [List.filter_cons_of_pos (by simpa using h)]
    exact ⟨by simp [fstI, ints], rfl⟩
  | a :: t, k + 1, hk, h0, h1 => by
    have h : ¬ c < (a : Int) := by have := h0 0 (by omega); simp [ints] at this; omega
    rw [List.filter_cons_of_neg (by simpa using h)]
    have := filt_at c t k (by simpa using hk) (fun j hj => by have := h0 (j + 1) (by omega); simpa [ints] using this) (by simpa [ints] using h1)
    rw [this.1, this.2]
    exact ⟨by simp [ints], rfl⟩
theorem filt_none (c : Int) (l : List Nat) (h : ∀ j, j < l.length → (ints l).getD j 0 ≤ c) : fstI (l.filter (fun (i : Nat) => decide (c < (i : Int)))) = 0 ∧ anyB (l.filter (fun (i : Nat) => decide (c < (i : Int)))) = false := by
  have e : l.filter (fun (i : Nat) => decide (c < (i : Int))) = [] := by
    rw [List.filter_eq_nil_iff]
    intro a ha
    obtain ⟨j, hj, rfl⟩ := List.mem_iff_getElem.1 ha
    have := h j hj
    have e : (ints l).getD j 0 = (l[j] : Int) := by simp [ints, hj]
    rw [e] at this
    simp; omega
  rw [e]; exact ⟨rfl, rfl⟩

/-! ### are two rows the same? -/
set_option maxHeartbeats 1000000 in
theorem rints_same (v u : Value) (zs : List Int) (w : World) (hv : Ints .i64 w v zs) (hu : Ints .i64 w u zs) :
    Calls Try.prog 12 #[v, u] w fun e w' => e = .returned (.bool true) ∧ Below w.heap.size w w' := by
  rcases hv.parts with ⟨rfl, a, cap, rfl⟩ | ⟨hp, hm, b, off, cap, rfl, hbw, hc⟩
  · rcases hu.parts with ⟨_, a', cap', rfl⟩ | ⟨hp, _⟩
    · go_enter Try.func12, Try.ntmps12
      go_wp2
      go_loop [5] (fun i => i = .int .i64 0) (fun _ => 0)
      case atStart => rfl
      case round =>
        subst hrel
        go_wp2
        go_ret
        exact ⟨rfl, Below.refl _ _⟩
    · simp at hp
  · rcases hu.parts with ⟨e, _⟩ | ⟨-, -, b', off', cap', rfl, hbw', hc'⟩
    · rw [e] at hp; simp at hp
    · clear hv hu
      have hl : zs.length ≤ 9223372036854775807 := by unfold maxLen at hm; omega
      clear hm
      generalize zs.length = n at *
      have hnn : (((n : Int) != (n : Int)) = false) := by simp
      go_enter Try.func12, Try.ntmps12
      go_wp2
      go_loopw [5] (fun i wr => ∃ k : Nat, k ≤ n ∧ i = .int .i64 k ∧ Below w.heap.size w wr) (fun i _ => n - (intOf i).toNat)
      case atStart => exact ⟨0, by omega, rfl, Below.refl _ _⟩
      case round =>
        obtain ⟨k, hk, rfl, hnx⟩ := hrel
        by_cases hlt : k < n
        · have hck : wr.cell? ⟨b, off + k, none⟩ = some (.int .i64 (zs.getD k 0)) := by rw [hnx.cell (p := ⟨b, off + k, none⟩) hbw]; exact hc k hlt
          have hck' : wr.cell? ⟨b', off' + k, none⟩ = some (.int .i64 (zs.getD k 0)) := by rw [hnx.cell (p := ⟨b', off' + k, none⟩) hbw']; exact hc' k hlt
          clear hc hc'
          generalize zs.getD k 0 = z at *
          have hzz : ((z != z) = false) := by simp
          go_wp2
          go_quiet (fail)
          go_wp2
          exact ⟨⟨k + 1, by omega, by go_num, below_drewN hnx _⟩, by simp [intOf]; omega⟩
        · obtain rfl : k = n := by omega
          clear hc hc'
          go_wp2
          go_ret
          exact ⟨rfl, hnx⟩

end Go.Proofs.Ytnjbcblhciblcaa
