/-
  Layer 14's New, the program's and the document's.
-/
import Derived.Test.YtjikabalpejmlaaDoorTlK
namespace Go.Proofs.YtjikabalpejmlaaDoor
open Go.RowKit Go.Deep Pk Lf
open Mk (V allM cpus fstI anyB)

def newT (n : Int) : Tl.T := if 0 ≤ n ∧ n ≤ 64 then ⟨List.replicate n.toNat 0, List.replicate n.toNat Tl.k0⟩ else Tl.t0
def newE (n : Int) : Int := if 0 ≤ n ∧ n ≤ 64 then 0 else 1
theorem mk_w (l : Nat) (hl : l ≤ 64) (w : World) : (Instr.makeSlice 22 (.int .i64 l) (.int .i64 l)).run Tryd.prog w = .ok (.slice (some ⟨w.heap.size, 0, none⟩) l l) (w.alloc (.cells (Array.replicate l (.int .u64 0)) 28)) := by
  obtain ⟨i, hi, hz, hs1, hs2⟩ := info_parts info_u64
  have := run_make w 22 28 i _ Tryd.underlying22 hi hz .i64 .i64 l l (by omega) (by omega) (by rw [hs2]; omega) (by omega)
  rw [hs1, Int.toNat_natCast, zeros_w] at this
  exact this
theorem mk_t (l : Nat) (hl : l ≤ 64) (w : World) : (Instr.makeSlice 23 (.int .i64 l) (.int .i64 l)).run Tryd.prog w = .ok (.slice (some ⟨w.heap.size, 0, none⟩) l l) (w.alloc (.cells (cellsE encK (List.replicate l Tl.k0)).toArray 52)) := by
  obtain ⟨i, hi, hz, hs1, hs2⟩ := info_parts info_task
  have := run_make w 23 52 i _ Tryd.underlying23 hi hz .i64 .i64 l l (by omega) (by omega) (by rw [hs2]; omega) (by omega)
  rw [hs1, Int.toNat_natCast, zeros_t] at this
  exact this
/-- What New tells of k slots. -/
theorem new_tv {w : World} {n0 n1 k : Nat} (hk : k ≤ 64) (h0 : w.heap[n0]? = some (.cells (Array.replicate k (.int .u64 0)) 28)) (h1 : Td w n1 (List.replicate k Tl.k0)) :
    Tv w (.agg #[.slice (some ⟨n0, 0, none⟩) k k, .slice (some ⟨n1, 0, none⟩) k k]) ⟨List.replicate k 0, List.replicate k Tl.k0⟩ := by
  have hw : Wd w n0 (List.replicate k 0) := by
    unfold Wd
    rw [h0]; simp
  refine ⟨_, _, rfl, hw.ints ?_ (by simpa using hk) (by simp), h1.els ?_ (by simpa using hk) (by simp)⟩
  · intro z hz
    obtain ⟨-, rfl⟩ := List.mem_replicate.1 hz
    decide
  · intro z hz
    obtain ⟨-, rfl⟩ := List.mem_replicate.1 hz
    exact ⟨by unfold Ni; decide, show (0 : Nat) < 18446744073709551616 by decide, by unfold Ni; decide⟩

set_option maxHeartbeats 4000000 in
set_option maxRecDepth 100000 in
theorem new_any (n : Int) (W : World) : Calls Tryd.prog 12 #[.int .i64 n] W (Tells W (newT n) (newE n)) := by
  by_cases hn : 0 ≤ n ∧ n ≤ 64
  · obtain ⟨k, rfl⟩ : ∃ k : Nat, n = k := ⟨n.toNat, by omega⟩
    have HE : Hid (newE (k : Int) = 0 ∧ newT (k : Int) = ⟨List.replicate k 0, List.replicate k Tl.k0⟩) := Lib.hid (by unfold newE newT; rw [if_pos hn, if_pos hn]; exact ⟨rfl, by simp⟩)
    have hk : k ≤ 64 := by omega
    have hm0 := mk_w k hk
    have hm1 := mk_t k hk
    have d0 : decide ((k : Int) < 0) = false := decide_eq_false (by omega)
    have d1 : decide ((k : Int) > 64) = false := decide_eq_false (by omega)
    clear hn
    go_enter Tryd.func12, Tryd.ntmps12
    go_upto_region 3 with fail
    go_region
    all_goals
      have HA := allocs_at [.cells #[.slice (some ⟨W.heap.size + 1, 0, none⟩) k k, .slice (some ⟨W.heap.size + 1 + 1, 0, none⟩) k k] 25, .cells (Array.replicate k (.int .u64 0)) 28, .cells (cellsE encK (List.replicate k Tl.k0)).toArray 52] W
      have HB := allocs_below W [.cells #[.slice (some ⟨W.heap.size + 1, 0, none⟩) k k, .slice (some ⟨W.heap.size + 1 + 1, 0, none⟩) k k] 25, .cells (Array.replicate k (.int .u64 0)) 28, .cells (cellsE encK (List.replicate k Tl.k0)).toArray 52]
      have HA' := allocs_at [.cells #[.slice (some ⟨W.heap.size + 1 + 1, 0, none⟩) k k, .slice (some ⟨W.heap.size + 1, 0, none⟩) k k] 25, .cells (cellsE encK (List.replicate k Tl.k0)).toArray 52, .cells (Array.replicate k (.int .u64 0)) 28] W
      have HB' := allocs_below W [.cells #[.slice (some ⟨W.heap.size + 1 + 1, 0, none⟩) k k, .slice (some ⟨W.heap.size + 1, 0, none⟩) k k] 25, .cells (cellsE encK (List.replicate k Tl.k0)).toArray 52, .cells (Array.replicate k (.int .u64 0)) 28]
      simp only [allocs] at HA HB HA' HB'
      first
        | (generalize ((W.alloc _).alloc _).alloc _ = w9 at HA HB ⊢
           have q : Bt w9 W.heap.size (.slice (some ⟨W.heap.size + 1, 0, none⟩) k k) (.slice (some ⟨W.heap.size + 1 + 1, 0, none⟩) k k) := HA 0 _ rfl
           have HF := Lib.hid (And.intro (new_tv hk (n0 := W.heap.size + 1) (n1 := W.heap.size + 1 + 1) (HA 1 _ rfl) (HA 2 _ rfl)) (And.intro q HB))
           clear HA HB HA' HB' q
           go_wp2
           obtain ⟨q0, q1⟩ := HF.out.2.1.cells
           refine bodyPost_ret (v := .tuple #[.agg #[.slice (some ⟨W.heap.size + 1, 0, none⟩) k k, .slice (some ⟨W.heap.size + 1 + 1, 0, none⟩) k k], .int .i64 0]) (by simp [results, Tryd.results12, go_sem, q0, q1]) rfl ?_
           rw [HE.out.1, HE.out.2]
           exact ⟨⟨_, rfl, HF.out.1, ⟨_, _, _, _, _, _, rfl, (by intro q hq; cases hq; show W.heap.size ≤ W.heap.size + 1; omega), (by intro q hq; cases hq; show W.heap.size ≤ W.heap.size + 1 + 1; omega)⟩⟩, HF.out.2.2.drew⟩)
        | (generalize ((W.alloc _).alloc _).alloc _ = w9 at HA' HB' ⊢
           have q : Bt w9 W.heap.size (.slice (some ⟨W.heap.size + 1 + 1, 0, none⟩) k k) (.slice (some ⟨W.heap.size + 1, 0, none⟩) k k) := HA' 0 _ rfl
           have HF := Lib.hid (And.intro (new_tv hk (n0 := W.heap.size + 1 + 1) (n1 := W.heap.size + 1) (HA' 2 _ rfl) (HA' 1 _ rfl)) (And.intro q HB'))
           clear HA HB HA' HB' q
           go_wp2
           obtain ⟨q0, q1⟩ := HF.out.2.1.cells
           refine bodyPost_ret (v := .tuple #[.agg #[.slice (some ⟨W.heap.size + 1 + 1, 0, none⟩) k k, .slice (some ⟨W.heap.size + 1, 0, none⟩) k k], .int .i64 0]) (by simp [results, Tryd.results12, go_sem, q0, q1]) rfl ?_
           rw [HE.out.1, HE.out.2]
           exact ⟨⟨_, rfl, HF.out.1, ⟨_, _, _, _, _, _, rfl, (by intro q hq; cases hq; show W.heap.size ≤ W.heap.size + 1 + 1; omega), (by intro q hq; cases hq; show W.heap.size ≤ W.heap.size + 1; omega)⟩⟩, HF.out.2.2.drew⟩)
  · have HE : Hid (newE n = 1 ∧ newT n = Tl.t0) := Lib.hid (by unfold newE newT; rw [if_neg hn, if_neg hn]; exact ⟨rfl, rfl⟩)
    have HS := Lib.hid (Bt.new W (.slice none 0 0) (.slice none 0 0))
    have HB := Lib.hid ((Below.refl W.heap.size W).alloc (Nat.le_refl _) (.cells #[.slice none 0 0, .slice none 0 0] 25))
    by_cases h0 : n < 0
    · have d0 : decide (n < 0) = true := decide_eq_true h0
      clear hn h0
      go_enter Tryd.func12, Tryd.ntmps12
      go_wp2
      obtain ⟨q0, q1⟩ := HS.out.cells
      refine bodyPost_ret (v := .tuple #[.agg #[.slice none 0 0, .slice none 0 0], .int .i64 1]) (by simp [results, Tryd.results12, go_sem, q0, q1]) rfl ?_
      rw [HE.out.1, HE.out.2]
      exact ⟨⟨_, rfl, Tv.zero _, Far.zero _⟩, HB.out⟩
    · have d0 : decide (n < 0) = false := decide_eq_false h0
      have d1 : decide (n > 64) = true := decide_eq_true (by omega)
      clear hn h0
      go_enter Tryd.func12, Tryd.ntmps12
      go_wp2
      obtain ⟨q0, q1⟩ := HS.out.cells
      refine bodyPost_ret (v := .tuple #[.agg #[.slice none 0 0, .slice none 0 0], .int .i64 1]) (by simp [results, Tryd.results12, go_sem, q0, q1]) rfl ?_
      rw [HE.out.1, HE.out.2]
      exact ⟨⟨_, rfl, Tv.zero _, Far.zero _⟩, HB.out⟩
set_option maxHeartbeats 4000000 in
set_option maxRecDepth 100000 in
theorem rnew_any (n : Int) (W : World) : Calls Tryd.prog 13 #[.int .i64 n] W (Tells W (newT n) (newE n)) := by
  by_cases hn : 0 ≤ n ∧ n ≤ 64
  · obtain ⟨k, rfl⟩ : ∃ k : Nat, n = k := ⟨n.toNat, by omega⟩
    have HE : Hid (newE (k : Int) = 0 ∧ newT (k : Int) = ⟨List.replicate k 0, List.replicate k Tl.k0⟩) := Lib.hid (by unfold newE newT; rw [if_pos hn, if_pos hn]; exact ⟨rfl, by simp⟩)
    have hk : k ≤ 64 := by omega
    have hm0 := mk_w k hk
    have hm1 := mk_t k hk
    have d0 : decide ((k : Int) < 0) = false := decide_eq_false (by omega)
    have d1 : decide ((k : Int) > 64) = false := decide_eq_false (by omega)
    clear hn
    go_enter Tryd.func13, Tryd.ntmps13
    go_upto_region 3 with fail
    go_region
    all_goals
      have HA := allocs_at [.cells #[.slice (some ⟨W.heap.size + 1, 0, none⟩) k k, .slice (some ⟨W.heap.size + 1 + 1, 0, none⟩) k k] 25, .cells (Array.replicate k (.int .u64 0)) 28, .cells (cellsE encK (List.replicate k Tl.k0)).toArray 52] W
      have HB := allocs_below W [.cells #[.slice (some ⟨W.heap.size + 1, 0, none⟩) k k, .slice (some ⟨W.heap.size + 1 + 1, 0, none⟩) k k] 25, .cells (Array.replicate k (.int .u64 0)) 28, .cells (cellsE encK (List.replicate k Tl.k0)).toArray 52]
      have HA' := allocs_at [.cells #[.slice (some ⟨W.heap.size + 1 + 1, 0, none⟩) k k, .slice (some ⟨W.heap.size + 1, 0, none⟩) k k] 25, .cells (cellsE encK (List.replicate k Tl.k0)).toArray 52, .cells (Array.replicate k (.int .u64 0)) 28] W
      have HB' := allocs_below W [.cells #[.slice (some ⟨W.heap.size + 1 + 1, 0, none⟩) k k, .slice (some ⟨W.heap.size + 1, 0, none⟩) k k] 25, .cells (cellsE encK (List.replicate k Tl.k0)).toArray 52, .cells (Array.replicate k (.int .u64 0)) 28]
      simp only [allocs] at HA HB HA' HB'
      first
        | (generalize ((W.alloc _).alloc _).alloc _ = w9 at HA HB ⊢
           have q : Bt w9 W.heap.size (.slice (some ⟨W.heap.size + 1, 0, none⟩) k k) (.slice (some ⟨W.heap.size + 1 + 1, 0, none⟩) k k) := HA 0 _ rfl
           have HF := Lib.hid (And.intro (new_tv hk (n0 := W.heap.size + 1) (n1 := W.heap.size + 1 + 1) (HA 1 _ rfl) (HA 2 _ rfl)) (And.intro q HB))
           clear HA HB HA' HB' q
           go_wp2
           obtain ⟨q0, q1⟩ := HF.out.2.1.cells
           refine bodyPost_ret (v := .tuple #[.agg #[.slice (some ⟨W.heap.size + 1, 0, none⟩) k k, .slice (some ⟨W.heap.size + 1 + 1, 0, none⟩) k k], .int .i64 0]) (by simp [results, Tryd.results13, go_sem, q0, q1]) rfl ?_
           rw [HE.out.1, HE.out.2]
           exact ⟨⟨_, rfl, HF.out.1, ⟨_, _, _, _, _, _, rfl, (by intro q hq; cases hq; show W.heap.size ≤ W.heap.size + 1; omega), (by intro q hq; cases hq; show W.heap.size ≤ W.heap.size + 1 + 1; omega)⟩⟩, HF.out.2.2.drew⟩)
        | (generalize ((W.alloc _).alloc _).alloc _ = w9 at HA' HB' ⊢
           have q : Bt w9 W.heap.size (.slice (some ⟨W.heap.size + 1 + 1, 0, none⟩) k k) (.slice (some ⟨W.heap.size + 1, 0, none⟩) k k) := HA' 0 _ rfl
           have HF := Lib.hid (And.intro (new_tv hk (n0 := W.heap.size + 1 + 1) (n1 := W.heap.size + 1) (HA' 2 _ rfl) (HA' 1 _ rfl)) (And.intro q HB'))
           clear HA HB HA' HB' q
           go_wp2
           obtain ⟨q0, q1⟩ := HF.out.2.1.cells
           refine bodyPost_ret (v := .tuple #[.agg #[.slice (some ⟨W.heap.size + 1 + 1, 0, none⟩) k k, .slice (some ⟨W.heap.size + 1, 0, none⟩) k k], .int .i64 0]) (by simp [results, Tryd.results13, go_sem, q0, q1]) rfl ?_
           rw [HE.out.1, HE.out.2]
           exact ⟨⟨_, rfl, HF.out.1, ⟨_, _, _, _, _, _, rfl, (by intro q hq; cases hq; show W.heap.size ≤ W.heap.size + 1 + 1; omega), (by intro q hq; cases hq; show W.heap.size ≤ W.heap.size + 1; omega)⟩⟩, HF.out.2.2.drew⟩)
  · have HE : Hid (newE n = 1 ∧ newT n = Tl.t0) := Lib.hid (by unfold newE newT; rw [if_neg hn, if_neg hn]; exact ⟨rfl, rfl⟩)
    have HS := Lib.hid (Bt.new W (.slice none 0 0) (.slice none 0 0))
    have HB := Lib.hid ((Below.refl W.heap.size W).alloc (Nat.le_refl _) (.cells #[.slice none 0 0, .slice none 0 0] 25))
    by_cases h0 : n < 0
    · have d0 : decide (n < 0) = true := decide_eq_true h0
      clear hn h0
      go_enter Tryd.func13, Tryd.ntmps13
      go_wp2
      obtain ⟨q0, q1⟩ := HS.out.cells
      refine bodyPost_ret (v := .tuple #[.agg #[.slice none 0 0, .slice none 0 0], .int .i64 1]) (by simp [results, Tryd.results13, go_sem, q0, q1]) rfl ?_
      rw [HE.out.1, HE.out.2]
      exact ⟨⟨_, rfl, Tv.zero _, Far.zero _⟩, HB.out⟩
    · have d0 : decide (n < 0) = false := decide_eq_false h0
      have d1 : decide (n > 64) = true := decide_eq_true (by omega)
      clear hn h0
      go_enter Tryd.func13, Tryd.ntmps13
      go_wp2
      obtain ⟨q0, q1⟩ := HS.out.cells
      refine bodyPost_ret (v := .tuple #[.agg #[.slice none 0 0, .slice none 0 0], .int .i64 1]) (by simp [results, Tryd.results13, go_sem, q0, q1]) rfl ?_
      rw [HE.out.1, HE.out.2]
      exact ⟨⟨_, rfl, Tv.zero _, Far.zero _⟩, HB.out⟩
end Go.Proofs.YtjikabalpejmlaaDoor
