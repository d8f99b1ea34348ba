/-
  Contracts of turnspitref08's First, Sorted, at, put, Sort, Put and Drop: the document's own answers for keys.
-/
import Derived.Test.YtpmknpdnhfnfcaaGreatDoorKyR
import Derived.Deep.RegionHeld3
namespace Go.Proofs.YtpmknpdnhfnfcaaGreatDoor
open Go.RowKit Go.Sort Wd Tn Ky

/-! ### at -/
/-- What at tells. -/
def atI (id : Int) (l : List K) : Int := if idxK id l < l.length then (idxK id l : Int) else -1
set_option maxRecDepth 100000 in
theorem at_none (id : Int) (a : Option Addr) (cap : Nat) (W : World) : Calls Tryz.prog 75 #[.slice a 0 cap, .int .i64 id] W fun e w' => e = .returned (.int .i64 (-1)) ∧ W = w' := by
  go_enter Tryz.func75, Tryz.ntmps75
  go_wp2
  refine wp_loop_rounds 1 ?_
  rw [rounds_succ]
  go_wp2
  go_ret
  exact ⟨rfl, rfl⟩
set_option maxRecDepth 100000 in
set_option maxHeartbeats 400000 in
theorem at_some (id : Int) {l : List K} {W : World} {b off cap : Nat} (hl : l.length ≤ maxLen)
    (hc : ∀ i, i < l.length → W.cell? ⟨b, off + i * 2, none⟩ = some (.int .u64 (l.getD i (0, 0)).1) ∧ W.cell? ⟨b, off + i * 2 + 1, none⟩ = some (.int .i64 (l.getD i (0, 0)).2)) :
    Calls Tryz.prog 75 #[.slice (some ⟨b, off, none⟩) l.length cap, .int .i64 id] W fun e w' => e = .returned (.int .i64 (atI id l)) ∧ W = w' := by
  have HC := Lib.hid hc
  obtain ⟨r, hr⟩ : ∃ r, atI id l = r := ⟨_, rfl⟩
  rw [hr]
  have HR := Lib.hid hr
  unfold maxLen at hl
  clear hc hr
  go_enter Tryz.func75, Tryz.ntmps75
  go_wp2
  go_loop [5] (fun i => ∃ k : Nat, k ≤ l.length ∧ i = .int .i64 k ∧ Hid (∀ j, j < k → (l.getD j (0, 0)).2 ≠ id)) (fun i => l.length - (intOf i).toNat)
  case atStart => exact ⟨0, by omega, rfl, Lib.hid (fun j hj => absurd hj (Nat.not_lt_zero _))⟩
  case round =>
    obtain ⟨k, hk, rfl, HK⟩ := hrel
    by_cases hlt : k < l.length
    · have c1 := (HC.out k hlt).2
      by_cases he : (l.getD k (0, 0)).2 = id
      · have HE : Hid (r = (k : Int)) := Lib.hid (by
          rw [← HR.out]
          unfold atI
          rw [idxK_at hlt he HK.out, if_pos hlt])
        generalize (l.getD k (0, 0)).2 = y at c1 he
        have e1 : (y == id) = true := by simpa using he
        clear he
        go_wp2
        go_ret
        exact ⟨by rw [HE.out]; rfl, rfl⟩
      · have HN : Hid (∀ j, j < k + 1 → (l.getD j (0, 0)).2 ≠ id) := Lib.hid (fun j hj => by
          rcases (show j < k ∨ j = k by omega) with h | rfl
          · exact HK.out j h
          · exact he)
        generalize (l.getD k (0, 0)).2 = y at c1 he
        have e1 : (y == id) = false := by simpa using he
        clear he
        go_wp2
        go_round
        case rel => exact ⟨k + 1, by omega, by go_num, HN⟩
        case measure => simp [intOf]; omega
    · obtain rfl : k = l.length := by omega
      have HE : Hid (r = -1) := Lib.hid (by
        rw [← HR.out]
        unfold atI
        rw [idxK_none HK.out, if_neg (Nat.lt_irrefl _)])
      go_wp2
      go_ret
      exact ⟨by rw [HE.out]; rfl, rfl⟩
set_option maxRecDepth 100000 in
theorem at_any (id : Int) {W : World} {v : Value} {l : List K} (h : Keys W v l) : Calls Tryz.prog 75 #[v, .int .i64 id] W fun e w' => e = .returned (.int .i64 (atI id l)) ∧ W = w' := by
  rcases h.parts with ⟨rfl, a, cap, rfl⟩ | ⟨hp, b, off, cap, rfl, hcap, hb, hc⟩
  · exact at_none id a cap W
  · exact at_some id (by omega) hc

/-! ### First -/
set_option maxRecDepth 100000 in
theorem rfirst_none (m : Int) (a : Option Addr) (cap : Nat) (W : World) :
    Calls Tryz.prog 126 #[.int .u64 m, .slice a 0 cap] W fun e w' => e = .returned (.tuple #[.agg #[.int .u64 0, .int .i64 0], .bool false]) ∧ Below W.heap.size W w' := by
  go_enter Tryz.func126, Tryz.ntmps126
  go_wp2
  exact bodyPost_ret (v := .tuple #[.agg #[.int .u64 0, .int .i64 0], .bool false]) (by simp [results, Tryz.results126, go_sem]) rfl ⟨rfl, (Below.refl _ _).alloc (Nat.le_refl _) _⟩

set_option maxHeartbeats 400000 in
set_option maxRecDepth 100000 in
theorem rfirst_some (m : Int) {l : List K} {W : World} {b off cap : Nat} (hp : 0 < l.length) (hl : l.length ≤ 1000) (hb : b < W.heap.size)
    (hc : ∀ i, i < l.length → W.cell? ⟨b, off + i * 2, none⟩ = some (.int .u64 (l.getD i (0, 0)).1) ∧ W.cell? ⟨b, off + i * 2 + 1, none⟩ = some (.int .i64 (l.getD i (0, 0)).2)) :
    Calls Tryz.prog 126 #[.int .u64 m, .slice (some ⟨b, off, none⟩) l.length cap] W fun e w' => e = .returned (.tuple #[.agg #[.int .u64 (firstK m l).1, .int .i64 (firstK m l).2], .bool true]) ∧ Below W.heap.size W w' := by
  have mixed : Tryz.prog.follows .mixedOrders = true := by kernel_rfl
  have c := hc 0 hp
  obtain ⟨z, hz⟩ : ∃ z, firstK m l = z := ⟨_, rfl⟩
  rw [hz]
  obtain ⟨x0, hx0⟩ : ∃ x, l.getD 0 (0, 0) = x := ⟨_, rfl⟩
  rw [hx0] at c
  have c0 := c.1
  have c1 := c.2
  rw [Nat.zero_mul, Nat.add_zero] at c0 c1
  have d0 := (Gr.alloc W (.cells #[.int .u64 0, .int .i64 0] 57)).cell c0
  have d1 := (Gr.alloc W (.cells #[.int .u64 0, .int .i64 0] 57)).cell c1
  have hne : ((l.length : Int) == 0) = false := by rw [beq_eq_false_iff_ne]; omega
  have HC := Lib.hid hc
  have HF : Hid (fstK m x0 (l.tail.take (l.length - 1)) = z) := Lib.hid (by
    rw [← hz]
    unfold firstK
    rw [List.take_of_length_le (by simp), ← hx0]
    cases l with
    | nil => simp at hp
    | cons a t => rfl)
  have HT : Hid (∀ k, 0 < k → k < l.length → l.tail.take k = l.tail.take (k - 1) ++ [l.getD k (0, 0)]) := Lib.hid (fun k h0 hk => by
    obtain ⟨j, rfl⟩ : ∃ j, k = j + 1 := ⟨k - 1, by omega⟩
    rw [List.take_add_one]
    simp [List.getD, hk])
  clear hc c c0 c1 hx0 hz
  go_enter Tryz.func126, Tryz.ntmps126
  go_wp2
  go_loopw [7] (fun i wr => ∃ k : Nat, 0 < k ∧ k ≤ l.length ∧ i = .int .i64 k ∧ Hid (Kb wr (W.heap.size + 1) (fstK m x0 (l.tail.take (k - 1))) ∧ Kb wr W.heap.size (0, 0) ∧ Below W.heap.size W wr)) (fun i _ => l.length - (intOf i).toNat)
  case atStart =>
    refine ⟨1, by omega, by omega, rfl, Lib.hid ⟨?_, ?_, ((Below.refl _ _).alloc (Nat.le_refl _) _).alloc (by simp) _⟩⟩
    · have h := Kb.new (W.alloc (.cells #[.int .u64 0, .int .i64 0] 57)) x0
      rw [show (W.alloc (.cells #[.int .u64 0, .int .i64 0] 57)).heap.size = W.heap.size + 1 by simp] at h
      exact h
    · exact (Kb.new W (0, 0)).gr (Gr.alloc _ _)
  case round =>
    obtain ⟨k, hk0, hk, rfl, HR⟩ := hrel
    by_cases hlt : k < l.length
    · obtain ⟨x, hx⟩ : ∃ x, l.getD k (0, 0) = x := ⟨_, rfl⟩
      obtain ⟨y, hy⟩ : ∃ y, fstK m x0 (l.tail.take (k - 1)) = y := ⟨_, rfl⟩
      have c := HC.out k hlt
      rw [hx] at c
      have hr := HR.out
      rw [hy] at hr
      have r0 := (hr.2.2.cell (p := ⟨b, off + k * 2, none⟩) hb).trans c.1
      have r1 := (hr.2.2.cell (p := ⟨b, off + k * 2 + 1, none⟩) hb).trans c.2
      have HN := Lib.hid (by rw [show k + 1 - 1 = k by omega, HT.out k hk0 hlt, fstK_more, hy, hx] : fstK m x0 (l.tail.take (k + 1 - 1)) = if ltK m x y = true then x else y)
      have f0 : ∀ n os, (grow (wr.drewN n) os).cell? ⟨b, off + k * 2, none⟩ = some (.int .u64 x.1) := fun n os => Gr.cell ⟨n, os, rfl⟩ r0
      have f1 : ∀ n os, (grow (wr.drewN n) os).cell? ⟨b, off + k * 2 + 1, none⟩ = some (.int .i64 x.2) := fun n os => Gr.cell ⟨n, os, rfl⟩ r1
      have f2 : ∀ n os, (grow (wr.drewN n) os).cell? ⟨W.heap.size + 1, 0, none⟩ = some (.int .u64 y.1) := fun n os => Gr.cell ⟨n, os, rfl⟩ hr.1.all.1
      have f3 : ∀ n os, (grow (wr.drewN n) os).cell? ⟨W.heap.size + 1, 1, none⟩ = some (.int .i64 y.2) := fun n os => Gr.cell ⟨n, os, rfl⟩ hr.1.all.2.1
      have HG : Hid (∀ w', Gr wr w' → Kb w' (W.heap.size + 1) y ∧ Kb w' W.heap.size (0, 0) ∧ Below W.heap.size W w') := Lib.hid (fun w' hg => ⟨hr.1.gr hg, hr.2.1.gr hg, bOn hr.2.2 hg.below⟩)
      obtain ⟨q, hq⟩ : ∃ q, ltK m x y = q := ⟨_, rfl⟩
      have hcg : ∀ n os, Calls Tryz.prog 87 #[.int .u64 m, .agg #[.int .u64 x.1, .int .i64 x.2], .agg #[.int .u64 y.1, .int .i64 y.2]] (grow (wr.drewN n) os) fun e w' => e = .returned (.bool q) ∧ ∃ q' os', w' = grow ((grow (wr.drewN n) os).drewN q') os' := fun n os => by
        rw [← hq]; exact rless_gr m x y _
      rw [hq] at HN
      clear hx hy c hr r0 r1 hq
      cases q with
      | true =>
        go_wp2_with fail
        go_quiet_grown (first | (go_at_call 87; refine Calls.grown_of (hcg _ _)))
        have p0 := f0 nq osq
        have p1 := f1 nq osq
        obtain ⟨k1, k2, k3⟩ := HG.out (grow (wr.drewN nq) osq) ⟨nq, osq, rfl⟩
        clear f0 f1 f2 f3 hcg
        generalize grow (wr.drewN nq) osq = w1 at p0 p1 k1 k2 k3 ⊢
        obtain ⟨g0, g1, g2, g3, -⟩ := k1.all
        have HK := Lib.hid (show Kb ((w1.setCell ⟨W.heap.size + 1, 0, none⟩ (.int .u64 x.1)).setCell ⟨W.heap.size + 1, 1, none⟩ (.int .i64 x.2)) (W.heap.size + 1) x ∧ Kb ((w1.setCell ⟨W.heap.size + 1, 0, none⟩ (.int .u64 x.1)).setCell ⟨W.heap.size + 1, 1, none⟩ (.int .i64 x.2)) W.heap.size (0, 0) ∧ Below W.heap.size W ((w1.setCell ⟨W.heap.size + 1, 0, none⟩ (.int .u64 x.1)).setCell ⟨W.heap.size + 1, 1, none⟩ (.int .i64 x.2)) from
          ⟨k1.store x, (k2.other (by omega)).other (by omega), (k3.setCell (by show W.heap.size ≤ W.heap.size + 1; omega) _).setCell (by show W.heap.size ≤ W.heap.size + 1; omega) _⟩)
        clear k1 k2 k3
        go_wp2
        refine ⟨⟨k + 1, by omega, by omega, by go_num, Lib.hid ?_⟩, by simp [intOf]; omega⟩
        rw [HN.out]
        first | (rw [if_pos trivial]; exact HK.out) | (rw [if_pos rfl]; exact HK.out)
      | false =>
        go_wp2_with fail
        go_quiet_grown (first | (go_at_call 87; refine Calls.grown_of (hcg _ _)))
        have HK := Lib.hid (HG.out (grow (wr.drewN nq) osq) ⟨nq, osq, rfl⟩)
        clear f0 f1 f2 f3 hcg
        go_wp2
        refine ⟨⟨k + 1, by omega, by omega, by go_num, Lib.hid ?_⟩, by simp [intOf]; omega⟩
        rw [HN.out, if_neg (by decide)]
        exact HK.out
    · obtain rfl : k = l.length := by omega
      have hr := HR.out
      rw [HF.out] at hr
      obtain ⟨g0, g1, -, -, -⟩ := hr.1.all
      obtain ⟨r0, r1, r2, r3, -⟩ := hr.2.1.all
      have HS := Lib.hid ((hr.2.1.store z).all)
      have HB := Lib.hid ((hr.2.2.setCell (p := ⟨W.heap.size, 0, none⟩) (Nat.le_refl _) (.int .u64 z.1)).setCell (p := ⟨W.heap.size, 1, none⟩) (Nat.le_refl _) (.int .i64 z.2))
      clear hr
      go_wp2
      obtain ⟨s0, s1, -, -, -⟩ := HS.out
      exact bodyPost_ret (v := .tuple #[.agg #[.int .u64 z.1, .int .i64 z.2], .bool true]) (by simp [results, Tryz.results126, go_sem, s0, s1]) rfl ⟨rfl, HB.out⟩

set_option maxRecDepth 100000 in
theorem rfirst_any (m : Int) {W : World} {v : Value} {l : List K} (h : Keys W v l) (hl : l.length ≤ 1000) :
    Calls Tryz.prog 126 #[.int .u64 m, v] W fun e w' => e = .returned (.tuple #[.agg #[.int .u64 (firstK m l).1, .int .i64 (firstK m l).2], .bool (firstB l)]) ∧ Below W.heap.size W w' := by
  rcases h.parts with ⟨rfl, a, cap, rfl⟩ | ⟨hp, b, off, cap, rfl, hcap, hb, hc⟩
  · exact rfirst_none m a cap W
  · have : firstB l = true := by
      cases l with
      | nil => simp at hp
      | cons a t => rfl
    rw [this]
    exact rfirst_some m hp hl hb hc
end Go.Proofs.YtpmknpdnhfnfcaaGreatDoor
