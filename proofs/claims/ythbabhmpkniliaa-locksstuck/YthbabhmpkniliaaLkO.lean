/-
  Contracts of the document's own answers on who is stuck: in, few, holder.
-/
import Derived.Test.YthbabhmpkniliaaLkU
namespace Go.Proofs.Ythbabhmpkniliaa
open Go.RowKit Go.ChangeAt Go.ChangeShapes Go.WideShapes Lk

theorem rin_none (x : Int) (a : Option Addr) (cap : Nat) (W : World) : Calls Try.prog 33 #[.slice a 0 cap, .int .i64 x] W fun e w' => e = .returned (.bool false) ∧ W = w' := by
  go_enter Try.func33, Try.ntmps33
  go_wp2
  refine wp_loop_rounds 1 ?_
  rw [rounds_succ]
  go_wp2
  go_ret
  exact ⟨rfl, rfl⟩
set_option maxHeartbeats 400000 in
theorem rin_some (x : Int) {l : List Int} {W : World} {b off cap : Nat} (hl : l.length ≤ maxLen) (hc : ∀ i, i < l.length → W.cell? ⟨b, off + i, none⟩ = some (.int .i64 (l.getD i 0))) :
    Calls Try.prog 33 #[.slice (some ⟨b, off, none⟩) l.length cap, .int .i64 x] W fun e w' => e = .returned (.bool (decide (x ∈ l))) ∧ W = w' := by
  have HC := Lib.hid hc
  obtain ⟨r, hr⟩ : ∃ r, decide (x ∈ l) = r := ⟨_, rfl⟩
  rw [hr]
  have HR := Lib.hid hr
  unfold maxLen at hl
  clear hc hr
  go_enter Try.func33, Try.ntmps33
  go_wp2
  go_loop [5] (fun i => ∃ k : Nat, k ≤ l.length ∧ i = .int .i64 k ∧ Hid (∀ j, j < k → l.getD j 0 ≠ x)) (fun i => l.length - (intOf i).toNat)
  case atStart => exact ⟨0, by omega, rfl, Lib.hid (fun j hj => absurd hj (Nat.not_lt_zero _))⟩
  case round =>
    obtain ⟨k, hk, rfl, HK⟩ := hrel
    by_cases hlt : k < l.length
    · have c1 := HC.out k hlt
      by_cases he : l.getD k 0 = x
      · have HE : Hid (r = true) := Lib.hid (by
          rw [← HR.out, decide_eq_true_eq, ← he]
          simp [List.getD, hlt])
        generalize l.getD k 0 = y at c1 he
        have e1 : (y == x) = true := by simpa using he
        clear he
        go_wp2
        go_ret
        exact ⟨by rw [HE.out]; rfl, rfl⟩
      · have HN : Hid (∀ j, j < k + 1 → l.getD j 0 ≠ x) := Lib.hid (fun j hj => by
          rcases (show j < k ∨ j = k by omega) with h | rfl
          · exact HK.out j h
          · exact he)
        generalize l.getD k 0 = y at c1 he
        have e1 : (y == x) = false := by simpa using he
        clear he
        go_wp2
        go_round
        case rel => exact ⟨k + 1, by omega, by go_num, HN⟩
        case measure => simp [intOf]; omega
    · obtain rfl : k = l.length := by omega
      have HE : Hid (r = false) := Lib.hid (by
        rw [← HR.out, decide_eq_false_iff_not]
        intro hm
        obtain ⟨j, hj, he⟩ := List.getElem_of_mem hm
        refine HK.out j hj ?_
        simp [List.getD, hj, he])
      go_wp2
      go_ret
      exact ⟨by rw [HE.out]; rfl, rfl⟩
theorem rin_at (x : Int) {W : World} {v : Value} {l : List Int} (h : Ints .i64 W v l) : Calls Try.prog 33 #[v, .int .i64 x] W fun e w' => e = .returned (.bool (decide (x ∈ l))) ∧ W = w' := by
  rcases h.parts with ⟨rfl, a, cap, rfl⟩ | ⟨hp, hm, b, off, cap, rfl, hb, hc⟩
  · have := rin_none x a cap W
    simpa using this
  · exact rin_some x hm hc

/-- Waiters and their locks, the first k's. -/
def cntW (ws : List Wt) : Nat → Nat
  | 0 => 0
  | k + 1 => cntW ws k + 1 + (holdsW ws k).length
theorem cntW_le (ws : List Wt) {k n : Nat} (h : k ≤ n) : cntW ws k ≤ cntW ws n := by
  induction n with
  | zero => rw [show k = 0 by omega]; exact Nat.le_refl _
  | succ n ih =>
    rcases (show k ≤ n ∨ k = n + 1 by omega) with h1 | rfl
    · have := ih h1; simp only [cntW]; omega
    · exact Nat.le_refl _
theorem cntW_allP (ws : List Wt) (k : Nat) : cntW ws k = k + (allP ws k).length := by
  induction k with
  | zero => simp [cntW, allP]
  | succ k ih => rw [allP_succ, List.length_append, pairs_len]; simp only [cntW]; omega

set_option maxHeartbeats 1000000 in
set_option maxRecDepth 100000 in
theorem few_any {W : World} {v : Value} {ws : List Wt} (h : Wts W v ws) (hB : ∀ i, i < ws.length → (ws.getD i wE).1.length ≤ 140737488355328) : Calls Try.prog 20 #[v] W fun e w' => e = .returned (.bool (decide (cntW ws ws.length ≤ 200))) ∧ W = w' := by
  have hml : ws.length ≤ maxLen := by obtain ⟨_, _, _, hm, _⟩ := h; omega
  obtain ⟨a, cap, rfl, hc⟩ := h.parts
  have HC := Lib.hid hc
  obtain ⟨r, hr⟩ : ∃ r, decide (cntW ws ws.length ≤ 200) = r := ⟨_, rfl⟩
  rw [hr]
  have HR := Lib.hid hr
  have HBB := Lib.hid hB
  unfold maxLen at hml
  clear h hc hr hB
  go_enter Try.func20, Try.ntmps20
  go_wp2
  go_loop [3, 4] (fun u v => ∃ k c : Nat, k ≤ ws.length ∧ u = .int .i64 c ∧ v = .int .i64 k ∧ c ≤ 140737488355529 ∧ Hid (cntW ws k = c)) (fun _ v => ws.length - (intOf v).toNat)
  case atStart => exact ⟨0, 0, by omega, rfl, rfl, by omega, Lib.hid rfl⟩
  case round =>
    obtain ⟨k, c, hk, rfl, rfl, hcm, HK⟩ := hrel
    by_cases hlt : k < ws.length
    · by_cases hc2 : c ≤ 200
      · obtain ⟨b, off, rfl, hbl, hcs⟩ : ∃ b off, a = some ⟨b, off, none⟩ ∧ b < W.heap.size ∧ ∀ i, i < ws.length → ∃ u, W.cell? ⟨b, off + i * 2, none⟩ = some u ∧ Ints .i64 W u (ws.getD i wE).1 ∧ W.cell? ⟨b, off + i * 2 + 1, none⟩ = some (.int .i64 (ws.getD i wE).2) := by
          rcases HC.out with h | h
          · rw [h] at hlt; simp at hlt
          · exact h
        obtain ⟨u, hu, hI, -⟩ := hcs k hlt
        obtain ⟨au, cu, e1⟩ := ints_shape hI
        have hlm := HBB.out k hlt
        have HN : Hid (cntW ws (k + 1) = c + 1 + (ws.getD k wE).1.length) := Lib.hid (by show cntW ws k + 1 + _ = _; rw [HK.out]; rfl)
        generalize (ws.getD k wE).1.length = m at *
        subst e1
        have hc3 : (c : Int) ≤ 200 := by omega
        clear hcs hI HC HK
        go_wp2
        go_round
        case rel => exact ⟨k + 1, c + 1 + m, by omega, by go_num, by go_num, by omega, HN⟩
        case measure => simp [intOf]; omega
      · have hc3 : ¬ (c : Int) ≤ 200 := by omega
        have HE : Hid (r = false) := Lib.hid (by
          rw [← HR.out, decide_eq_false_iff_not]
          have := cntW_le ws hk
          rw [HK.out] at this
          omega)
        go_wp2
        go_ret
        exact ⟨by rw [HE.out]; rfl, rfl⟩
    · obtain rfl : k = ws.length := by omega
      have HE : Hid (r = decide ((c : Int) ≤ 200)) := Lib.hid (by
        rw [← HR.out, HK.out]
        exact decide_eq_decide.2 (by omega))
      go_wp2
      go_ret
      exact ⟨by rw [HE.out]; rfl, rfl⟩

set_option maxHeartbeats 1000000 in
set_option maxRecDepth 100000 in
theorem rholder_any {W : World} {v vs : Value} {ws : List Wt} {S : List Int} (h : Wts W v ws) (hs : Ints .i64 W vs S) (hS : ∀ z ∈ S, 0 ≤ z ∧ z < ws.length) (x : Int) :
    Calls Try.prog 34 #[v, vs, .int .i64 x] W fun e w' => (∃ r : Int, e = .returned (.int .i64 r) ∧ (0 ≤ r ↔ ∃ z ∈ S, x ∈ holdsW ws z.toNat)) ∧ W = w' := by
  have hml : S.length ≤ maxLen := by obtain ⟨_, _, _, hm, _⟩ := hs; omega
  obtain ⟨a, cap, rfl, hc⟩ := h.parts
  have HC := Lib.hid hc
  have HP := Lib.hid hs.parts
  obtain ⟨av, cv, rfl⟩ := ints_shape hs
  have HS := Lib.hid hS
  unfold maxLen at hml
  clear h hc hs hS
  go_enter Try.func34, Try.ntmps34
  go_wp2
  go_loop [7] (fun v => ∃ k : Nat, k ≤ S.length ∧ v = .int .i64 k ∧ Hid (∀ j, j < k → x ∉ holdsW ws (S.getD j 0).toNat)) (fun v => S.length - (intOf v).toNat)
  case atStart => exact ⟨0, by omega, rfl, Lib.hid (fun j hj => absurd hj (Nat.not_lt_zero _))⟩
  case round =>
    obtain ⟨k, hk, rfl, HK⟩ := hrel
    by_cases hlt : k < S.length
    · obtain ⟨bs, os, e9, hce⟩ : ∃ bs os, av = some ⟨bs, os, none⟩ ∧ W.cell? ⟨bs, os + k, none⟩ = some (.int .i64 (S.getD k 0)) := by
        rcases HP.out with ⟨e, -⟩ | ⟨-, -, b, o, c9, e, -, h9⟩
        · rw [e] at hlt; simp at hlt
        · simp only [Value.slice.injEq] at e
          exact ⟨b, o, e.1, h9 k hlt⟩
      have hmem : S.getD k 0 ∈ S := by simp [List.getD, hlt]
      obtain ⟨hz0, hz1⟩ := HS.out _ hmem
      obtain ⟨q, hq⟩ : ∃ q : Nat, S.getD k 0 = q := ⟨(S.getD k 0).toNat, by omega⟩
      rw [hq] at hce hz1 hmem
      have hql : q < ws.length := by omega
      have HQ : Hid (S.getD k 0 = q ∧ (q : Int) ∈ S) := Lib.hid ⟨hq, hmem⟩
      obtain ⟨b, off, rfl, hbl, hcs⟩ : ∃ b off, a = some ⟨b, off, none⟩ ∧ b < W.heap.size ∧ ∀ i, i < ws.length → ∃ u, W.cell? ⟨b, off + i * 2, none⟩ = some u ∧ Ints .i64 W u (ws.getD i wE).1 ∧ W.cell? ⟨b, off + i * 2 + 1, none⟩ = some (.int .i64 (ws.getD i wE).2) := by
        rcases HC.out with h | h
        · rw [h] at hql; simp at hql
        · exact h
      obtain ⟨u, hu, hI, -⟩ := hcs q hql
      have HI := Lib.hid hI
      subst e9
      clear hcs hI hz0 hz1 hq hmem HC HP HS
      go_wp2_with fail
      refine (rin_at x HI.out).mono ?_
      rintro e w1 ⟨rfl, rfl⟩
      by_cases hm : x ∈ (ws.getD q wE).1
      · have hd : decide (x ∈ (ws.getD q wE).1) = true := decide_eq_true hm
        have HM := Lib.hid hm
        rw [hd]
        clear hd hm
        go_wp2
        go_ret
        refine ⟨⟨q, rfl, fun _ => ⟨q, HQ.out.2, ?_⟩, fun _ => by omega⟩, rfl⟩
        simpa [holdsW] using HM.out
      · have hd : decide (x ∈ (ws.getD q wE).1) = false := decide_eq_false hm
        have HM : Hid (∀ j, j < k + 1 → x ∉ holdsW ws (S.getD j 0).toNat) := Lib.hid (fun j hj => by
          rcases (show j < k ∨ j = k by omega) with h | rfl
          · exact HK.out j h
          · rw [HQ.out.1]; simpa [holdsW] using hm)
        rw [hd]
        clear hd hm
        go_wp2
        go_round
        case rel => exact ⟨k + 1, by omega, by go_num, HM⟩
        case measure => simp [intOf]; omega
    · obtain rfl : k = S.length := by omega
      go_wp2
      go_ret
      refine ⟨⟨-1, rfl, fun h => by omega, ?_⟩, rfl⟩
      rintro ⟨z, hz, hx⟩
      obtain ⟨j, hj, he⟩ := List.getElem_of_mem hz
      refine absurd hx ?_
      have := HK.out j hj
      rwa [show S.getD j 0 = z by simp [List.getD, hj, he]] at this

end Go.Proofs.Ythbabhmpkniliaa
