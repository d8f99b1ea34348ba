/-
  Contracts of turnspitref04's List, Next, First, Round and Ints.
-/
import Derived.Test.YtjikabalpejmlaaDoorMskR
import Derived.Test.YtjikabalpejmlaaDoorSlA
import Derived.Deep.QuietTactic
import Derived.BigQuiet
import Derived.WalkSmall
namespace Go.Proofs.YtjikabalpejmlaaDoor
open Go.RowKit Go.Shelf Mk

theorem ints_info : (Tryd.prog.info? 3).map (fun i => (i.zero, i.size, i.bytes)) = some (some (.int .i64 0), 1, 8) := by kernel_rfl

def upto (x k : Nat) : List Int := ints ((List.range k).filter (fun i => x.testBit i))
theorem upto_all (x : Nat) : upto x 64 = ints (cpus x) := rfl
theorem upto_yes (x k : Nat) (h : x.testBit k = true) : upto x (k + 1) = upto x k ++ [(k : Int)] := by
  unfold upto ints; rw [List.range_succ, List.filter_append, List.map_append]; simp [h]
theorem upto_no (x k : Nat) (h : x.testBit k = false) : upto x (k + 1) = upto x k := by
  unfold upto ints; rw [List.range_succ, List.filter_append, List.map_append]; simp [h]
theorem upto_len (x k : Nat) : (upto x k).length ≤ k := by
  unfold upto ints
  rw [List.length_map]
  have := List.length_filter_le (fun i => x.testBit i) (List.range k)
  simpa using this
theorem ints_wf (x : Nat) : ∀ z ∈ ints (cpus x), (Lit.int .i64 z).wf = true := by
  intro z hz
  unfold ints at hz
  obtain ⟨i, hi, rfl⟩ := List.mem_map.1 hz
  have := cpus_lt hi
  exact i64_wf (by omega)
theorem ints_length (l : List Nat) : (ints l).length = l.length := by unfold ints; rw [List.length_map]

set_option maxHeartbeats 1000000 in
theorem rlist_any (x : Nat) (hx : V x) (w : World) :
    Calls Tryd.prog 75 #[.int .u64 x] w fun e w' => ∃ v, e = .returned v ∧ Own .i64 w' w.heap.size 3 v (ints (cpus x)) ∧ Below w.heap.size w w' := by
  go_enter Tryd.func75, Tryd.ntmps75
  go_wp2
  go_loopw [3, 4] (fun v i wr => ∃ k : Nat, k ≤ 64 ∧ i = .int .i64 k ∧ Own .i64 wr w.heap.size 3 v (upto x k) ∧ Below w.heap.size w wr) (fun _ i _ => 64 - (intOf i).toNat)
  case atStart => exact ⟨0, by omega, rfl, Own.nil _ _ _ _, Below.refl _ _⟩
  case round =>
    obtain ⟨k, hk, rfl, hown, hnx⟩ := hrel
    by_cases hlt : k < 64
    · have HV := Lib.hid hx
      have HOW := Lib.hid hown
      have HL := Lib.hid (upto_len x k)
      have HI := Lib.hid (ints_new (k := .i64) wr 3 [(k : Int)] (by simp [maxLen]) (by intro y hy; simp at hy; subst hy; exact i64_wf (by omega)))
      cases hb : x.testBit k with
      | true =>
        have HB : Hid (has x (k : Int) = true) := by unfold Hid; rw [has_at, hb]
        have HZ := Lib.hid (upto_yes x k hb)
        clear hown hx hb
        go_wp2_with fail
        refine (rhas_any x HV.out (k : Int) _).mono ?_
        rintro e' w' ⟨rfl, rfl⟩
        rw [HB.out]
        go_wp2_with (at_builtin; go_loud (refine wpList_append_ints (k := .i64) (bytes := 8) rfl (.tmp 12) (.tmp 14) 49 rfl w.heap.size 3 Tryd.underlying49 ints_info (by decide) (upto x k) [(k : Int)] (HOW.out.alloc _) HI.out (by have := HL.out; simp only [List.length_cons, List.length_nil]; omega) (by have := hnx.size; simp; omega) ?_); intro v' w2 hown2 hbel2)
        have hb2 : Below w.heap.size w w2 := (hnx.alloc hnx.size _).trans hbel2
        exact ⟨⟨k + 1, by omega, by go_num, by rw [HZ.out]; exact hown2, hb2⟩, by simp [intOf]; omega⟩
      | false =>
        have HB : Hid (has x (k : Int) = false) := by unfold Hid; rw [has_at, hb]
        have HZ := Lib.hid (upto_no x k hb)
        clear hown hx hb
        go_wp2_with fail
        refine (rhas_any x HV.out (k : Int) _).mono ?_
        rintro e' w' ⟨rfl, rfl⟩
        rw [HB.out]
        go_wp2
        exact ⟨⟨k + 1, by omega, by go_num, by rw [HZ.out]; exact HOW.out, hnx⟩, by simp [intOf]; omega⟩
    · obtain rfl : k = 64 := by omega
      go_wp2
      go_ret
      exact ⟨_, rfl, hown, hnx⟩

/-! ### the first one above c -/
theorem filt_at (c : Int) : ∀ (l : List Nat) (k : Nat), k < l.length → (∀ j, j < k → (ints l).getD j 0 ≤ c) → c < (ints l).getD k 0 →
    fstI (l.filter (fun (i : Nat) => decide (c < (i : Int)))) = (ints l).getD k 0 ∧ anyB (l.filter (fun (i : Nat) => decide (c < (i : Int)))) = true
  | [], k, hk, _, _ => absurd hk (Nat.not_lt_zero _)
  | a :: t, 0, _, _, h1 => by
    have h : c < (a : Int) := by simpa [ints] using h1
    rw [List.filter_cons_of_pos (by simpa using h)]
    exact ⟨by simp [fstI, ints], rfl⟩
  | a :: t, k + 1, hk, h0, h1 => by
    have h : ¬ c < (a : Int) := by have := h0 0 (by omega); simp [ints] at this; omega
    rw [List.filter_cons_of_neg (by simpa using h)]
    have := filt_at c t k (by simpa using hk) (fun j hj => by have := h0 (j + 1) (by omega); simpa [ints] using this) (by simpa [ints] using h1)
    rw [this.1, this.2]
    exact ⟨by simp [ints], rfl⟩
theorem filt_none (c : Int) (l : List Nat) (h : ∀ j, j < l.length → (ints l).getD j 0 ≤ c) : fstI (l.filter (fun (i : Nat) => decide (c < (i : Int)))) = 0 ∧ anyB (l.filter (fun (i : Nat) => decide (c < (i : Int)))) = false := by
  have e : l.filter (fun (i : Nat) => decide (c < (i : Int))) = [] := by
    rw [List.filter_eq_nil_iff]
    intro a ha
    obtain ⟨j, hj, rfl⟩ := List.mem_iff_getElem.1 ha
    have := h j hj
    have e : (ints l).getD j 0 = (l[j] : Int) := by simp [ints, hj]
    rw [e] at this
    simp; omega
  rw [e]; exact ⟨rfl, rfl⟩

set_option maxHeartbeats 1000000 in
theorem mrnext_any (x : Nat) (hx : V x) (c : Int) (w : World) :
    Calls Tryd.prog 65 #[.int .u64 x, .int .i64 c] w fun e w' => e = .returned (.tuple #[.int .i64 (fstI (above x c)), .bool (anyB (above x c))]) ∧ Below w.heap.size w w' := by
  have HA := Lib.hid (fun k h1 h2 h3 => filt_at c (cpus x) k h1 h2 h3)
  have HN := Lib.hid (filt_none c (cpus x))
  have HF : Hid (above x c = (cpus x).filter (fun (i : Nat) => decide (c < (i : Int)))) := rfl
  have HL := Lib.hid (cpus_le x)
  have HW := Lib.hid (ints_wf x)
  go_enter Tryd.func65, Tryd.ntmps65
  go_wp2_with fail
  refine (rlist_any x hx _).mono ?_
  rintro e' w1 ⟨v, rfl, hown, hb⟩
  have hI := hown.ints HW.out
  clear hown
  rw [← HF.out] at HA HN
  have hlen := ints_length (cpus x)
  generalize ints (cpus x) = zs at *
  generalize (cpus x).length = n at *
  rcases hI.parts with ⟨rfl, a, cap, rfl⟩ | ⟨hp, hm, b, off, cap, rfl, -, hc⟩
  · obtain rfl : n = 0 := by simpa using hlen.symm
    have hn := HN.out (fun j hj => absurd hj (Nat.not_lt_zero _))
    have HR := Lib.hid hn
    clear hI hn
    go_wp2
    go_loop [7] (fun i => i = .int .i64 0) (fun _ => 0)
    case atStart => rfl
    case round =>
      subst hrel
      go_wp2
      go_ret2
      exact ⟨by rw [HR.out.1, HR.out.2]; rfl, hb⟩
  · rw [hlen] at hp hm hc ⊢
    clear hI
    have hl : n ≤ 64 := HL.out
    go_wp2
    go_loop [7] (fun i => ∃ k : Nat, k ≤ n ∧ i = .int .i64 k ∧ ∀ j, j < k → zs.getD j 0 ≤ c) (fun i => n - (intOf i).toNat)
    case atStart => exact ⟨0, by omega, rfl, fun j hj => absurd hj (Nat.not_lt_zero _)⟩
    case round =>
      obtain ⟨k, hk, rfl, hle⟩ := hrel
      have HE := Lib.hid hle
      clear hle
      by_cases hlt : k < n
      · have hck := hc k hlt
        clear hc
        by_cases hz : c < zs.getD k 0
        · have HR := Lib.hid (HA.out k hlt HE.out hz)
          generalize zs.getD k 0 = z at *
          go_wp2
          go_ret2
          exact ⟨by rw [HR.out.1, HR.out.2]; rfl, hb⟩
        · have HS : Hid (∀ j, j < k + 1 → zs.getD j 0 ≤ c) := fun j hj => by
            by_cases e : j = k
            · subst e; omega
            · exact HE.out j (by omega)
          generalize zs.getD k 0 = z at *
          go_wp2
          exact ⟨⟨k + 1, by omega, by go_num, HS.out⟩, by simp [intOf]; omega⟩
      · obtain rfl : k = n := by omega
        have HR := Lib.hid (HN.out HE.out)
        clear hc
        go_wp2
        go_ret2
        exact ⟨by rw [HR.out.1, HR.out.2]; rfl, hb⟩

set_option maxHeartbeats 400000 in
theorem rfirst_any (x : Nat) (hx : V x) (w : World) :
    Calls Tryd.prog 50 #[.int .u64 x] w fun e w' => e = .returned (.tuple #[.int .i64 (fstI (cpus x)), .bool (anyB (cpus x))]) ∧ Below w.heap.size w w' := by
  have HE := Lib.hid (above_lo x)
  go_enter Tryd.func50, Tryd.ntmps50
  go_wp2_with fail
  refine (mrnext_any x hx (-1) _).mono ?_
  rintro e' w_hb ⟨rfl, hb⟩
  rw [HE.out]
  go_wp2
  go_ret2
  exact ⟨rfl, hb⟩

/-! ### are two rows the same? -/
end Go.Proofs.YtjikabalpejmlaaDoor
