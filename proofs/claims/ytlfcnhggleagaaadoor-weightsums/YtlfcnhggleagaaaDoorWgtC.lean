/-
  Contracts of layer 2's Share, and of the law's own 'awake', in every world that holds the table of weights.
-/
import Derived.Test.YtlfcnhggleagaaaDoorWgtB
namespace Go.Proofs.YtlfcnhggleagaaaDoor
open Go.RowKit Go.Shelf Wd Wg

set_option maxHeartbeats 400000 in
theorem share_none (d n : Int) (h : ¬ isNice n) (v : Value) (w : World) :
    Calls Tryd.prog 19 #[.int .i64 d, .int .i64 n, v] w fun e w' => e = .returned (.tuple #[.int .i64 0, .int .i64 1]) ∧ Below w.heap.size w w' := by
  go_enter Tryd.func19, Tryd.ntmps19
  go_wp2_with fail
  refine (of_no n h _).mono ?_
  rintro e w' ⟨rfl, rfl⟩
  clear h
  go_wp2
  all_goals go_ret2
  all_goals exact ⟨rfl, Below.refl _ _⟩

set_option maxHeartbeats 400000 in
theorem share_odd (d n : Int) (h : isNice n) (hd : d < 0 ∨ 1099511627776 < d) (v : Value) (w : World) (hT : Tab w) :
    Calls Tryd.prog 19 #[.int .i64 d, .int .i64 n, v] w fun e w' => e = .returned (.tuple #[.int .i64 0, .int .i64 1]) ∧ Below w.heap.size w w' := by
  by_cases h1 : d < 0
  · clear hd
    go_enter Tryd.func19, Tryd.ntmps19
    go_wp2_with fail
    refine (of_yes n h _ hT).mono ?_
    rintro e w' ⟨rfl, rfl⟩
    clear h
    go_wp2
    all_goals go_ret2
    all_goals exact ⟨rfl, Below.refl _ _⟩
  · have h2 : 1099511627776 < d := by omega
    clear hd
    go_enter Tryd.func19, Tryd.ntmps19
    go_wp2_with fail
    refine (of_yes n h _ hT).mono ?_
    rintro e w' ⟨rfl, rfl⟩
    clear h
    go_wp2
    all_goals go_ret2
    all_goals exact ⟨rfl, Below.refl _ _⟩

set_option maxHeartbeats 400000 in
theorem share_err (d n : Int) (h : isNice n) (h1 : 0 ≤ d) (h2 : d ≤ 1099511627776) (v : Value) (zs : List Int) (w : World) (hT : Tab w) (hv : Ints .i64 w v zs) (hs : sumE zs ≠ 0) :
    Calls Tryd.prog 19 #[.int .i64 d, .int .i64 n, v] w fun e w' => e = .returned (.tuple #[.int .i64 0, .int .i64 (sumE zs)]) ∧ Below w.heap.size w w' := by
  have hsum := sum_any v zs w hT hv
  have hS : (sumE zs != 0) = true := by simp [hs]
  have HS := Lib.hid hS
  have HV := Lib.hid hv
  clear hs hv hS
  generalize sumE zs = x at *
  generalize sumR zs = y at *
  go_enter Tryd.func19, Tryd.ntmps19
  go_wp2_with fail
  refine (of_yes n h _ hT).mono ?_
  rintro e w' ⟨rfl, rfl⟩
  clear h hT
  go_wp2_with fail
  refine hsum.mono ?_
  clear hsum
  rintro e w' ⟨rfl, rfl⟩
  have hS := HS.out
  go_wp2
  all_goals go_ret2
  all_goals exact ⟨rfl, Below.refl _ _⟩

set_option maxHeartbeats 400000 in
theorem share_empty (d n : Int) (h : isNice n) (h1 : 0 ≤ d) (h2 : d ≤ 1099511627776) (a : Option Addr) (cap : Nat) (w : World) (hT : Tab w) :
    Calls Tryd.prog 19 #[.int .i64 d, .int .i64 n, .slice a 0 cap] w fun e w' => e = .returned (.tuple #[.int .i64 0, .int .i64 1]) ∧ Below w.heap.size w w' := by
  go_enter Tryd.func19, Tryd.ntmps19
  go_wp2_with fail
  refine (of_yes n h _ hT).mono ?_
  rintro e w' ⟨rfl, rfl⟩
  clear h hT
  go_wp2_with fail
  refine (sum_nil a cap _).mono ?_
  rintro e w' ⟨rfl, rfl⟩
  go_wp2
  all_goals go_ret2
  all_goals exact ⟨rfl, Below.refl _ _⟩

set_option maxHeartbeats 400000 in
theorem share_yes (d n : Int) (v : Value) (zs : List Int) (w : World) (hT : Tab w) (hv : Ints .i64 w v zs) (hs : shE d n zs = 0) :
    Calls Tryd.prog 19 #[.int .i64 d, .int .i64 n, v] w fun e w' => e = .returned (.tuple #[.int .i64 (d * wt n / sumW zs), .int .i64 0]) ∧ Below w.heap.size w w' := by
  obtain ⟨h1, h2, h, hl, ha, hne⟩ := share_small d n zs hs
  obtain ⟨e1, e2, e3, -, -⟩ := scl_share d n zs hs
  have hw := wt_bound h
  have hb := sumW_bound zs ha
  have hE : sumE zs = 0 := by unfold sumE sumE0; rw [if_neg (by omega), if_pos ha]
  have hR : sumR zs = sumW zs := by unfold sumR sumR0; rw [if_neg (by omega), if_pos ha]
  have hsum := sum_any v zs w hT hv
  rw [hE, hR] at hsum
  have hp : 0 < zs.length := List.length_pos_iff.2 hne
  obtain ⟨a, cap, rfl, -, -, -⟩ := hv
  have HE : Hid (scl d (wt n) (sumW zs) = d * wt n / sumW zs) := e1
  have hof := of_yes n h w hT
  clear h hT hs ha hne hE hR e1
  generalize d * wt n / sumW zs = q at *
  generalize sumW zs = s at *
  generalize wt n = x at *
  generalize zs.length = k at *
  have ud : U d := U_nat d h1 (by omega)
  have ux : U x := U_nat x (by omega) (by omega)
  have us : U s := U_nat s (by omega) (by omega)
  have HU := Lib.hid (And.intro ud (And.intro ux us))
  clear ud ux us
  have hs0 : 0 ≤ s := by omega
  have hs1 : s ≤ 5680704 := by omega
  have hk : ((k : Int) == 0) = false := by simp; omega
  clear hb
  go_enter Tryd.func19, Tryd.ntmps19
  go_wp2_with fail
  refine hof.mono ?_
  clear hof
  rintro e w' ⟨rfl, rfl⟩
  go_wp2_with fail
  refine hsum.mono ?_
  clear hsum
  rintro e w' ⟨rfl, rfl⟩
  go_wp2_with fail
  refine (scale_any d x s HU.out.1 HU.out.2.1 HU.out.2.2 _).mono ?_
  rintro e w1 ⟨rfl, hb1⟩
  rw [HE.out]
  go_wp2
  go_ret2
  exact ⟨rfl, hb1⟩

/-- **Share**, of whatever is handed in. -/
theorem share_any (d n : Int) (v : Value) (zs : List Int) (w : World) (hT : Tab w) (hv : Ints .i64 w v zs) :
    Calls Tryd.prog 19 #[.int .i64 d, .int .i64 n, v] w fun e w' => e = .returned (.tuple #[.int .i64 (shR d n zs), .int .i64 (shE d n zs)]) ∧ Below w.heap.size w w' := by
  by_cases h0 : shE d n zs = 0
  · have hR : shR d n zs = d * wt n / sumW zs := by unfold shR; rw [if_pos h0]
    rw [hR, h0]
    exact share_yes d n v zs w hT hv h0
  · have hR : shR d n zs = 0 := by unfold shR; rw [if_neg h0]
    rw [hR]
    by_cases a : d < 0 ∨ 1099511627776 < d ∨ ¬ isNice n
    · have hE : shE d n zs = 1 := by unfold shE; rw [if_pos a]
      rw [hE]
      by_cases b : isNice n
      · exact share_odd d n b (a.elim .inl fun x => x.elim .inr fun y => absurd b y) v w hT
      · exact share_none d n b v w
    · have hn : isNice n := Classical.byContradiction fun x => a (.inr (.inr x))
      by_cases b : sumE zs = 0
      · have hz : zs = [] := Classical.byContradiction fun x => h0 (by unfold shE; rw [if_neg a, if_neg (fun y => y b), if_neg x])
        have hE : shE d n zs = 1 := by unfold shE; rw [if_neg a, if_neg (fun y => y b), if_pos hz]
        rw [hE]
        subst hz
        obtain ⟨a', cap, rfl, -, -, -⟩ := hv
        exact share_empty d n hn (by omega) (by omega) a' cap w hT
      · have hE : shE d n zs = sumE zs := by unfold shE; rw [if_neg a, if_pos b]
        rw [hE]
        exact share_err d n hn (by omega) (by omega) v zs w hT hv b

end Go.Proofs.YtlfcnhggleagaaaDoor
