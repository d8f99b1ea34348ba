/-
  The contract of the document's own Share (turnspitref02), of every argument in its kind's bounds: the same numbers.
-/
import Derived.Test.YtlfcnhggleagaaaDoorWgtR
namespace Go.Proofs.YtlfcnhggleagaaaDoor
open Go.RowKit Go.Shelf Wd Wg

set_option maxHeartbeats 400000 in
theorem rshare_none (d n : Int) (h : ¬ isNice n) (v : Value) (w : World) :
    Calls Tryd.prog 20 #[.int .i64 d, .int .i64 n, v] w fun e w' => e = .returned (.tuple #[.int .i64 0, .int .i64 1]) ∧ Below w.heap.size w w' := by
  go_enter Tryd.func20, Tryd.ntmps20
  go_wp2_with fail
  refine (rof_no n h _).mono ?_
  rintro e w' ⟨rfl, hb⟩
  clear h
  go_wp2
  all_goals go_ret2
  all_goals exact ⟨rfl, hb⟩

set_option maxHeartbeats 400000 in
theorem rshare_odd (d n : Int) (h : isNice n) (hd : d < 0 ∨ 1099511627776 < d) (v : Value) (w : World) :
    Calls Tryd.prog 20 #[.int .i64 d, .int .i64 n, v] w fun e w' => e = .returned (.tuple #[.int .i64 0, .int .i64 1]) ∧ Below w.heap.size w w' := by
  by_cases h1 : d < 0
  · clear hd
    go_enter Tryd.func20, Tryd.ntmps20
    go_wp2_with fail
    refine (rof_yes n h _).mono ?_
    rintro e w' ⟨rfl, hb⟩
    clear h
    go_wp2
    all_goals go_ret2
    all_goals exact ⟨rfl, hb⟩
  · have h2 : 1099511627776 < d := by omega
    clear hd
    go_enter Tryd.func20, Tryd.ntmps20
    go_wp2_with fail
    refine (rof_yes n h _).mono ?_
    rintro e w' ⟨rfl, hb⟩
    clear h
    go_wp2
    all_goals go_ret2
    all_goals exact ⟨rfl, hb⟩

set_option maxHeartbeats 400000 in
theorem rshare_err (d n : Int) (h : isNice n) (h1 : 0 ≤ d) (h2 : d ≤ 1099511627776) (v : Value) (zs : List Int) (w : World) (hv : Ints .i64 w v zs) (hs : sumE zs ≠ 0) :
    Calls Tryd.prog 20 #[.int .i64 d, .int .i64 n, v] w fun e w' => e = .returned (.tuple #[.int .i64 0, .int .i64 (sumE zs)]) ∧ Below w.heap.size w w' := by
  have hsum : ∀ w', Below w.heap.size w w' → _ := fun w' hb => rsum_any v zs w' (hv.below hb)
  have hS : (sumE zs != 0) = true := by simp [hs]
  have HS := Lib.hid hS
  have HV := Lib.hid hv
  clear hs hv hS
  generalize sumE zs = x at *
  generalize sumR zs = y at *
  have HM := Lib.hid hsum
  clear hsum
  go_enter Tryd.func20, Tryd.ntmps20
  go_wp2_with fail
  refine (rof_yes n h _).mono ?_
  rintro e w1 ⟨rfl, hb1⟩
  clear h
  go_wp2_with fail
  refine (HM.out _ hb1).mono ?_
  clear HM
  rintro e w2 ⟨rfl, hb2⟩
  have hS := HS.out
  go_wp2
  all_goals go_ret2
  all_goals exact ⟨rfl, bOn hb1 hb2⟩

set_option maxHeartbeats 400000 in
theorem rshare_empty (d n : Int) (h : isNice n) (h1 : 0 ≤ d) (h2 : d ≤ 1099511627776) (a : Option Addr) (cap : Nat) (w : World) :
    Calls Tryd.prog 20 #[.int .i64 d, .int .i64 n, .slice a 0 cap] w fun e w' => e = .returned (.tuple #[.int .i64 0, .int .i64 1]) ∧ Below w.heap.size w w' := by
  go_enter Tryd.func20, Tryd.ntmps20
  go_wp2_with fail
  refine (rof_yes n h _).mono ?_
  rintro e w' ⟨rfl, hb⟩
  clear h
  go_wp2_with fail
  refine (rsum_nil a cap _).mono ?_
  rintro e w' ⟨rfl, rfl⟩
  go_wp2
  all_goals go_ret2
  all_goals exact ⟨rfl, hb⟩

set_option maxHeartbeats 400000 in
theorem rshare_yes (d n : Int) (v : Value) (zs : List Int) (w : World) (hv : Ints .i64 w v zs) (hs : shE d n zs = 0) :
    Calls Tryd.prog 20 #[.int .i64 d, .int .i64 n, v] w fun e w' => e = .returned (.tuple #[.int .i64 (d * wt n / sumW zs), .int .i64 0]) ∧ Below w.heap.size w w' := by
  obtain ⟨h1, h2, h, hl, ha, hne⟩ := share_small d n zs hs
  obtain ⟨-, e2, e3, e4, e5⟩ := scl_share d n zs hs
  have hb := sumW_bound zs ha
  have hE : sumE zs = 0 := by unfold sumE sumE0; rw [if_neg (by omega), if_pos ha]
  have hR : sumR zs = sumW zs := by unfold sumR sumR0; rw [if_neg (by omega), if_pos ha]
  have hsum : ∀ w', Below w.heap.size w w' → _ := fun w' hb => rsum_any v zs w' (hv.below hb)
  rw [hE, hR] at hsum
  have hp : 0 < zs.length := List.length_pos_iff.2 hne
  have HQ : Hid ((d * wt n).tdiv (sumW zs) = d * wt n / sumW zs) := Int.tdiv_eq_ediv_of_nonneg e5
  have hof := rof_yes n h w
  clear h hs ha hne hE hR hv
  generalize d * wt n / sumW zs = q at *
  generalize sumW zs = s at *
  generalize wt n = x at *
  have hs0 : (s == 0) = false := by simp; omega
  have HM := Lib.hid hsum
  have HL := Lib.hid hb
  have HP := Lib.hid hp
  clear hb hsum hp
  obtain ⟨m, hm⟩ : ∃ m, d * x = m := ⟨_, rfl⟩
  rw [hm] at HQ e4 e5
  have hs1 : ¬ s = 0 := by simpa using hs0
  have HQ2 : Hid (wrap64 (m.tdiv s) = q) := by
    show wrap64 (m.tdiv s) = q
    rw [HQ.out]; unfold wrap64; omega
  clear HQ
  go_enter Tryd.func20, Tryd.ntmps20
  go_wp2_with fail
  refine hof.mono ?_
  clear hof
  rintro e w1 ⟨rfl, hb1⟩
  go_wp2_with fail
  refine (HM.out _ hb1).mono ?_
  clear HM
  rintro e w2 ⟨rfl, hb2⟩
  go_wp2
  go_ret2
  exact ⟨by rw [← HQ2.out]; rfl, bOn hb1 hb2⟩

/-- **The document's Share**, of whatever is handed in. -/
theorem rshare_any (d n : Int) (v : Value) (zs : List Int) (w : World) (hv : Ints .i64 w v zs) :
    Calls Tryd.prog 20 #[.int .i64 d, .int .i64 n, v] w fun e w' => e = .returned (.tuple #[.int .i64 (shR d n zs), .int .i64 (shE d n zs)]) ∧ Below w.heap.size w w' := by
  by_cases h0 : shE d n zs = 0
  · have hR : shR d n zs = d * wt n / sumW zs := by unfold shR; rw [if_pos h0]
    rw [hR, h0]
    exact rshare_yes d n v zs w hv h0
  · have hR : shR d n zs = 0 := by unfold shR; rw [if_neg h0]
    rw [hR]
    by_cases a : d < 0 ∨ 1099511627776 < d ∨ ¬ isNice n
    · have hE : shE d n zs = 1 := by unfold shE; rw [if_pos a]
      rw [hE]
      by_cases b : isNice n
      · exact rshare_odd d n b (a.elim .inl fun x => x.elim .inr fun y => absurd b y) v w
      · exact rshare_none d n b v w
    · have hn : isNice n := Classical.byContradiction fun x => a (.inr (.inr x))
      by_cases b : sumE zs = 0
      · have hz : zs = [] := Classical.byContradiction fun x => h0 (by unfold shE; rw [if_neg a, if_neg (fun y => y b), if_neg x])
        have hE : shE d n zs = 1 := by unfold shE; rw [if_neg a, if_neg (fun y => y b), if_pos hz]
        rw [hE]
        subst hz
        obtain ⟨a', cap, rfl, -, -, -⟩ := hv
        exact rshare_empty d n hn (by omega) (by omega) a' cap w
      · have hE : shE d n zs = sumE zs := by unfold shE; rw [if_neg a, if_pos b]
        rw [hE]
        exact rshare_err d n hn (by omega) (by omega) v zs w hv b

end Go.Proofs.YtlfcnhggleagaaaDoor
