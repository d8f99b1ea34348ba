/-
  Contracts of turnspitref04's small functions: the same masks, by plain reckoning.
-/
import Derived.Test.YtjikabalpejmlaaDoorMskA
namespace Go.Proofs.YtjikabalpejmlaaDoor
open Go.RowKit Go.Shelf Mk

theorem dbl_walk (k : Nat) (h : k + 1 < 64) : IntKind.u64.wrap (((2 ^ k : Nat) : Int) * 2) = ((2 ^ (k + 1) : Nat) : Int) := by
  have := V_two_pow (k + 1) h
  rw [Nat.pow_succ] at *
  rw [IntKind.wrap_u64]; unfold V at this
  generalize 2 ^ k = p at *
  omega

set_option maxHeartbeats 400000 in
theorem rbit_any (c : Int) (w : World) :
    Calls Tryd.prog 74 #[.int .i64 c] w fun e w' => e = .returned (.int .u64 (bt c : Nat)) ∧ w = w' := by
  by_cases h0 : c < 0
  · rw [bt_no c (.inl h0)]
    go_enter Tryd.func74, Tryd.ntmps74
    go_wp2
    go_ret
    exact ⟨rfl, rfl⟩
  · by_cases h1 : 64 ≤ c
    · rw [bt_no c (.inr h1)]
      go_enter Tryd.func74, Tryd.ntmps74
      go_wp2
      go_ret
      exact ⟨rfl, rfl⟩
    · obtain ⟨n, rfl⟩ : ∃ n : Nat, c = (n : Int) := ⟨c.toNat, by omega⟩
      have hn : n < 64 := by omega
      have HB := Lib.hid (bt_at n hn)
      clear h0
      go_enter Tryd.func74, Tryd.ntmps74
      go_wp2
      go_loop [3, 4] (fun s i => ∃ k : Nat, ∃ p : Nat, k ≤ n ∧ p = 2 ^ k ∧ s = .int .u64 (p : Nat) ∧ i = .int .i64 k) (fun _ i => n - (intOf i).toNat)
      case atStart => exact ⟨0, 1, by omega, rfl, rfl, rfl⟩
      case round =>
        obtain ⟨k, p, hk, hp, rfl, rfl⟩ := hrel
        have HP := Lib.hid hp
        clear hp
        by_cases hlt : k < n
        · have HS : Hid (IntKind.u64.wrap ((p : Int) * 2) = ((2 ^ (k + 1) : Nat) : Int)) := by
            unfold Hid; rw [HP.out]; exact dbl_walk k (by omega)
          go_wp2
          exact ⟨⟨k + 1, 2 ^ (k + 1), by omega, rfl, by rw [HS.out], by go_num⟩, by simp [intOf]; omega⟩
        · obtain rfl : k = n := by omega
          go_wp2
          go_ret
          exact ⟨by rw [HB.out, ← HP.out]; rfl, rfl⟩

theorem tb_div (x k : Nat) : x.testBit k = (x / 2 ^ k % 2 == 1) := by
  rw [Nat.testBit_eq_decide_div_mod_eq]
  by_cases h : x / 2 ^ k % 2 = 1 <;> simp [h]

theorem has_walk (x k p : Nat) (hx : V x) (hp : p = 2 ^ k) : ((IntKind.u64.wrap ((x : Int) / (p : Int))).tmod 2 == 1) = has x (k : Int) := by
  have e : (x : Int) / (p : Int) = ((x / p : Nat) : Int) := by simp
  have hle : x / p ≤ x := Nat.div_le_self _ _
  rw [e, has_at, tb_div, ← hp]
  generalize x / p = q at *
  have hw : IntKind.u64.wrap (q : Int) = (q : Int) := by rw [IntKind.wrap_u64]; unfold V at hx; omega
  have hm : ((q : Nat) : Int).tmod 2 = ((q % 2 : Nat) : Int) := by rw [Int.tmod_eq_emod_of_nonneg (by omega)]; simp
  rw [hw, hm]
  rcases Nat.mod_two_eq_zero_or_one q with h | h <;> rw [h] <;> rfl

set_option maxHeartbeats 400000 in
theorem rhas_any (x : Nat) (hx : V x) (c : Int) (w : World) :
    Calls Tryd.prog 73 #[.int .u64 x, .int .i64 c] w fun e w' => e = .returned (.bool (has x c)) ∧ w = w' := by
  cases hc : isCpu c with
  | false =>
    have HB : Hid (bt c = 0 ∧ has x c = false) := by
      refine ⟨bt_no c ?_, ?_⟩
      · unfold isCpu at hc; simp at hc; omega
      · cases h : has x c with
        | false => rfl
        | true => have := has_lt hx h; unfold isCpu at hc; simp at hc; omega
    clear hc
    go_enter Tryd.func73, Tryd.ntmps73
    go_wp2_with fail
    refine (rbit_any c _).mono ?_
    rintro e' w' ⟨rfl, rfl⟩
    rw [HB.out.1]
    go_wp2
    go_ret
    exact ⟨by rw [HB.out.2]; rfl, rfl⟩
  | true =>
    obtain ⟨k, rfl⟩ : ∃ k : Nat, c = (k : Int) := ⟨c.toNat, by unfold isCpu at hc; simp at hc; omega⟩
    have hk : k < 64 := by unfold isCpu at hc; simp at hc; omega
    obtain ⟨p, hp⟩ : ∃ p, bt (k : Int) = p := ⟨_, rfl⟩
    have hp2 : p = 2 ^ k := by rw [← hp, bt_at k hk]
    have hpos : 0 < p := by rw [hp2]; exact Nat.two_pow_pos k
    have h1 : ((p : Int) != 0) = true := by simp; omega
    have h2 : ((p : Int) == 0) = false := by simp; omega
    have HP := Lib.hid hp
    have HH : Hid (((IntKind.u64.wrap ((x : Int) / (p : Int))).tmod 2 == 1) = has x (k : Int)) := has_walk x k p hx hp2
    clear hc hp hp2
    go_enter Tryd.func73, Tryd.ntmps73
    go_wp2_with fail
    refine (rbit_any (k : Int) _).mono ?_
    rintro e' w' ⟨rfl, rfl⟩
    rw [HP.out]
    go_wp2_with fail
    refine (rbit_any (k : Int) _).mono ?_
    rintro e' w' ⟨rfl, rfl⟩
    rw [HP.out]
    go_wp2
    go_ret
    exact ⟨by rw [HH.out]; rfl, rfl⟩

set_option maxHeartbeats 400000 in
theorem mrwith_any (x : Nat) (hx : V x) (c : Int) (w : World) :
    Calls Tryd.prog 64 #[.int .u64 x, .int .i64 c] w fun e w' => e = .returned (.int .u64 (wit x c : Nat)) ∧ w = w' := by
  cases h : has x c with
  | true =>
    have HE := Lib.hid (wit_same x c h)
    have HH := Lib.hid h
    clear h
    go_enter Tryd.func64, Tryd.ntmps64
    go_wp2_with fail
    refine (rhas_any x hx c _).mono ?_
    rintro e' w' ⟨rfl, rfl⟩
    rw [HH.out]
    go_wp2
    go_ret
    exact ⟨by rw [HE.out]; rfl, rfl⟩
  | false =>
    have HE : Hid (IntKind.u64.wrap ((x : Int) + (bt c : Nat)) = (wit x c : Nat)) := by
      have h1 := wit_add x hx c h
      have h2 := V_wit hx c
      unfold Hid
      rw [IntKind.wrap_u64]; unfold V at h2; omega
    have HH := Lib.hid h
    clear h
    go_enter Tryd.func64, Tryd.ntmps64
    go_wp2_with fail
    refine (rhas_any x hx c _).mono ?_
    rintro e' w' ⟨rfl, rfl⟩
    rw [HH.out]
    go_wp2_with fail
    refine (rbit_any c _).mono ?_
    rintro e' w' ⟨rfl, rfl⟩
    go_wp2
    go_ret
    exact ⟨by rw [HE.out]; rfl, rfl⟩

/-! ### Of -/
/-! ### All -/
theorem all_step (k : Nat) (h : k < 64) : wit (allM (k : Int)) (k : Int) = allM ((k + 1 : Nat) : Int) := by
  refine ext (V_wit (V_all _) _) (V_all _) fun i hi => ?_
  rw [tb_wit, tb_all, tb_all]
  by_cases h1 : i < k
  · have a : (i : Int) < k := by omega
    have b : (i : Int) < (k + 1 : Nat) := by omega
    simp [a, hi]; omega
  · by_cases h2 : i = k
    · subst h2; simp [h]; omega
    · have a : ¬ (i : Int) < k := by omega
      have b : ¬ (i : Int) < (k + 1 : Nat) := by omega
      have c : ¬ (k : Int) = i := by omega
      rw [decide_eq_false a, decide_eq_false b, decide_eq_false c]; rfl
theorem all_end (n : Int) (k : Nat) (hk : k ≤ 64) (h : ¬ ((k : Int) < n ∧ k < 64)) (hl : (k : Int) ≤ n ∨ k = 0) : allM n = allM (k : Int) := by
  refine ext (V_all _) (V_all _) fun i hi => ?_
  rw [tb_all, tb_all]
  by_cases h1 : (i : Int) < n
  · have : (i : Int) < k := by omega
    simp [h1, this]
  · have : ¬ (i : Int) < k := by omega
    rw [decide_eq_false h1, decide_eq_false this]

set_option maxHeartbeats 400000 in
theorem rall_any (n : Int) (w : World) :
    Calls Tryd.prog 49 #[.int .i64 n] w fun e w' => e = .returned (.int .u64 (allM n : Nat)) ∧ w = w' := by
  go_enter Tryd.func49, Tryd.ntmps49
  go_wp2
  go_loop [3, 4] (fun s i => ∃ k : Nat, k ≤ 64 ∧ s = .int .u64 (allM (k : Int) : Nat) ∧ i = .int .i64 k ∧ ((k : Int) ≤ n ∨ k = 0)) (fun _ i => 64 - (intOf i).toNat)
  case atStart => exact ⟨0, by omega, rfl, rfl, .inr rfl⟩
  case round =>
    obtain ⟨k, hk, rfl, rfl, hl⟩ := hrel
    have HV := Lib.hid (V_all (k : Int))
    by_cases h1 : (k : Int) < n
    · by_cases h2 : k < 64
      · have HS := Lib.hid (all_step k h2)
        clear hl
        generalize allM (k : Int) = s at *
        go_wp2_with fail
        refine (mrwith_any s HV.out (k : Int) _).mono ?_
        rintro e' w' ⟨rfl, rfl⟩
        go_wp2
        exact ⟨⟨k + 1, by omega, by rw [HS.out], by go_num, .inl (by omega)⟩, by simp [intOf]; omega⟩
      · obtain rfl : k = 64 := by omega
        have HE := Lib.hid (all_end n 64 hk (by omega) hl)
        clear hl
        generalize allM ((64 : Nat) : Int) = s at *
        go_wp2
        go_ret
        exact ⟨by rw [HE.out]; rfl, rfl⟩
    · have HE := Lib.hid (all_end n k hk (by omega) hl)
      clear hl
      generalize allM (k : Int) = s at *
      go_wp2
      go_ret
      exact ⟨by rw [HE.out]; rfl, rfl⟩

end Go.Proofs.YtjikabalpejmlaaDoor
