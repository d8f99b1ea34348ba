/-
  Contracts of the document's own answers of layer 2 (turnspitref02), of every argument in its kind's bounds: the same numbers.
-/
import Derived.Test.YtlfcnhggleagaaaDoorWideR
import Derived.Test.YtlfcnhggleagaaaDoorWgtM
import Derived.Test.YtlfcnhggleagaaaDoorSl
namespace Go.Proofs.YtlfcnhggleagaaaDoor
open Go.RowKit Go.Shelf Wd Wg

theorem tab_wf : ∀ z ∈ tab, (Lit.int .i64 z).wf = true := by decide +kernel
set_option maxRecDepth 100000 in
set_option maxHeartbeats 1000000 in
theorem rw_any (w : World) :
    Calls Tryd.prog 21 #[] w fun e w' => e = .returned (.slice (some ⟨w.heap.size, 0, none⟩) 40 40) ∧ Below w.heap.size w w' ∧ ∀ i, i < 40 → w'.cell? ⟨w.heap.size, i, none⟩ = some (.int .i64 (tab.getD i 0)) := by
  have H : Hid (∀ i, i < 40 → (w.alloc (.cells (tab.map (Value.int .i64)).toArray 3)).cell? ⟨w.heap.size, i, none⟩ = some (.int .i64 (tab.getD i 0))) := fun i hi => by
    have hh : (w.alloc (.cells (tab.map (Value.int .i64)).toArray 3)).heap[w.heap.size]? = some (.cells (tab.map (Value.int .i64)).toArray 3) := heap_alloc_new w _
    have hl : i < tab.length := hi
    simp only [World.cell?, hh]
    simp [List.getD, hl]
  go_enter Tryd.func21, Tryd.ntmps21
  go_wp2
  go_ret
  exact ⟨rfl, (Below.refl _ w).alloc (Nat.le_refl _) _, H.out⟩

set_option maxHeartbeats 400000 in
theorem rof_yes (n : Int) (h : isNice n) (w : World) :
    Calls Tryd.prog 11 #[.int .i64 n] w fun e w' => e = .returned (.tuple #[.int .i64 (wt n), .int .i64 0]) ∧ Below w.heap.size w w' := by
  obtain ⟨k, rfl⟩ : ∃ k : Nat, n = (k : Int) - 20 := ⟨(n + 20).toNat, by unfold isNice at h; omega⟩
  have hk : k < 40 := by unfold isNice at h; omega
  rw [wt_at]
  clear h
  have h1 : (-20 : Int) ≤ (k : Int) - 20 := by omega
  have h2 : (k : Int) - 20 ≤ 19 := by omega
  obtain ⟨x, hx⟩ : ∃ x, tab.getD k 0 = x := ⟨_, rfl⟩
  rw [hx]
  have HX := Lib.hid hx
  clear hx
  go_enter Tryd.func11, Tryd.ntmps11
  go_wp2_with fail
  refine (rw_any _).mono ?_
  rintro e w' ⟨rfl, hb, hc⟩
  have hck := hc k hk
  clear hc
  rw [HX.out] at hck
  go_wp2
  go_ret2
  exact ⟨rfl, hb⟩

set_option maxHeartbeats 400000 in
theorem rof_no (n : Int) (h : ¬ isNice n) (w : World) :
    Calls Tryd.prog 11 #[.int .i64 n] w fun e w' => e = .returned (.tuple #[.int .i64 0, .int .i64 1]) ∧ Below w.heap.size w w' := by
  by_cases h1 : n < -20
  · clear h
    go_enter Tryd.func11, Tryd.ntmps11
    go_wp2
    go_ret2
    exact ⟨rfl, Below.refl _ _⟩
  · have h2 : 19 < n := by unfold isNice at h; omega
    clear h
    go_enter Tryd.func11, Tryd.ntmps11
    go_wp2
    go_ret2
    exact ⟨rfl, Below.refl _ _⟩

theorem rof_any (n : Int) (w : World) :
    Calls Tryd.prog 11 #[.int .i64 n] w fun e w' => e = .returned (.tuple #[.int .i64 (ofW n), .int .i64 (ofE n)]) ∧ Below w.heap.size w w' := by
  unfold ofW ofE
  by_cases h : isNice n
  · rw [if_pos h, if_pos h]; exact rof_yes n h w
  · rw [if_neg h, if_neg h]; exact rof_no n h w

set_option maxHeartbeats 400000 in
theorem rnice_any (x : Int) (w : World) :
    Calls Tryd.prog 16 #[.int .i64 x] w fun e w' => e = .returned (.int .i64 (niceOf x)) ∧ Below w.heap.size w w' := by
  unfold niceOf
  go_enter Tryd.func16, Tryd.ntmps16
  go_wp2
  go_loopw [3] (fun i wr => ∃ k : Nat, k ≤ 39 ∧ i = .int .i64 ((k : Int) - 20) ∧ Below w.heap.size w wr ∧ ∀ j, j < k → x < tab.getD j 0) (fun i _ => (19 - intOf i).toNat)
  case atStart => exact ⟨0, by omega, rfl, Below.refl _ _, fun j hj => absurd hj (Nat.not_lt_zero _)⟩
  case round =>
    obtain ⟨k, hk, rfl, hbw, hb⟩ := hrel
    have HB := Lib.hid hb
    clear hb
    by_cases hlt : k < 39
    · go_wp2_with fail
      refine (rw_any _).mono ?_
      rintro e w' ⟨rfl, hb2, hc⟩
      have hck := hc k (by omega)
      clear hc
      by_cases ht : tab.getD k 0 ≤ x
      · have HX : Hid (nix x = k) := nix_eq x k (by omega) HB.out (fun _ => ht)
        generalize tab.getD k 0 = t at *
        go_wp2
        go_ret
        exact ⟨by rw [HX.out]; rfl, bOn hbw hb2⟩
      · have HS : Hid (∀ j, j < k + 1 → x < tab.getD j 0) := fun j hj => by
          by_cases e : j = k
          · subst e; omega
          · exact HB.out j (by omega)
        generalize tab.getD k 0 = t at *
        go_wp2
        go_roundw
        case rel => exact ⟨k + 1, by omega, by go_num, bOn hbw hb2, HS.out⟩
        case measure => simp [intOf]; omega
    · have HX : Hid (nix x = 39) := nix_eq x 39 (by omega) (fun j hj => HB.out j (by omega)) (fun h => absurd h (by omega))
      obtain rfl : k = 39 := by omega
      go_wp2
      go_ret
      exact ⟨by rw [HX.out]; rfl, hbw⟩

set_option maxHeartbeats 400000 in
theorem rdelta_no (d x : Int) (h : d < 0 ∨ x < 1) (w : World) :
    Calls Tryd.prog 13 #[.int .i64 d, .int .i64 x] w fun e w' => e = .returned (.tuple #[.int .i64 0, .int .i64 1]) ∧ Below w.heap.size w w' := by
  by_cases h1 : d < 0
  · clear h
    go_enter Tryd.func13, Tryd.ntmps13
    go_wp2
    go_ret2
    exact ⟨rfl, Below.refl _ _⟩
  · have h2 : x < 1 := by omega
    clear h
    go_enter Tryd.func13, Tryd.ntmps13
    go_wp2
    go_ret2
    exact ⟨rfl, Below.refl _ _⟩

set_option maxHeartbeats 400000 in
theorem rdelta_yes (d x : Int) (hd : 0 ≤ d) (hd2 : d ≤ 9223372036854775807) (hx : 1 ≤ x) (hx2 : x ≤ 9223372036854775807) (w : World) :
    Calls Tryd.prog 13 #[.int .i64 d, .int .i64 x] w fun e w' => e = .returned (.tuple #[.int .i64 (dlt d x), .int .i64 0]) ∧ Below w.heap.size w w' := by
  have ud : U d := U_nat d hd hd2
  have ux : U x := U_nat x (by omega) hx2
  have us := U_scl 1024 d x U_1024 ud ux
  have hcm : scl d 1024 x = scl 1024 d x := scl_comm d 1024 x
  have hsc := rscale_any d 1024 x ud U_1024 ux
  rw [hcm] at hsc
  have HD : Hid (dlt d x = min (scl 1024 d x) step48) := rfl
  clear hcm ud ux
  generalize scl 1024 d x = s at *
  have hs0 := us.1
  clear us
  go_enter Tryd.func13, Tryd.ntmps13
  go_wp2_with fail
  refine (hsc _).mono ?_
  clear hsc
  rintro e w1 ⟨rfl, rfl⟩
  by_cases hle : s ≤ 281474976710656
  · have HE : Hid (dlt d x = s) := HD.out.trans (Int.min_eq_left hle)
    clear HD
    go_wp2
    go_ret2
    exact ⟨by rw [HE.out]; rfl, Below.refl _ _⟩
  · have HE : Hid (dlt d x = 281474976710656) := HD.out.trans (Int.min_eq_right (by unfold step48; omega))
    clear HD
    go_wp2
    go_ret2
    exact ⟨by rw [HE.out]; rfl, Below.refl _ _⟩

theorem rsum_nil (a : Option Addr) (cap : Nat) (w : World) :
    Calls Tryd.prog 18 #[.slice a 0 cap] w fun e w' => e = .returned (.tuple #[.int .i64 0, .int .i64 0]) ∧ w = w' := by
  go_enter Tryd.func18, Tryd.ntmps18
  go_wp2
  go_loop [4, 5] (fun s i => s = .int .i64 0 ∧ i = .int .i64 0) (fun _ _ => 0)
  case atStart => exact ⟨rfl, rfl⟩
  case round =>
    obtain ⟨rfl, rfl⟩ := hrel
    go_wp2
    go_ret2
    exact ⟨rfl, rfl⟩

theorem rsum_long (zs : List Int) (a : Option Addr) (cap : Nat) (w : World) (hl : 64 < zs.length) (hm : zs.length ≤ 9223372036854775807) :
    Calls Tryd.prog 18 #[.slice a zs.length cap] w fun e w' => e = .returned (.tuple #[.int .i64 0, .int .i64 2]) ∧ w = w' := by
  generalize zs.length = n at *
  go_enter Tryd.func18, Tryd.ntmps18
  go_wp2
  go_ret2
  exact ⟨rfl, rfl⟩

set_option maxHeartbeats 400000 in
theorem rsum_some (zs : List Int) (b off cap : Nat) (w : World) (hbw : b < w.heap.size) (hp : 0 < zs.length) (hl : zs.length ≤ 64) (hc : ∀ i, i < zs.length → w.cell? ⟨b, off + i, none⟩ = some (.int .i64 (zs.getD i 0))) :
    Calls Tryd.prog 18 #[.slice (some ⟨b, off, none⟩) zs.length cap] w fun e w' => e = .returned (.tuple #[.int .i64 (sumR0 zs), .int .i64 (sumE0 zs)]) ∧ Below w.heap.size w w' := by
  obtain ⟨n, hn⟩ : ∃ n, zs.length = n := ⟨_, rfl⟩
  rw [hn] at hp hl hc ⊢
  have HN := Lib.hid hn
  have HC := Lib.hid hc
  clear hn hc
  go_enter Tryd.func18, Tryd.ntmps18
  go_wp2
  go_loopw [4, 5] (fun s i wr => ∃ k : Nat, k ≤ n ∧ s = .int .i64 (sumW (zs.take k)) ∧ i = .int .i64 k ∧ allNice (zs.take k) ∧ Below w.heap.size w wr) (fun _ i _ => n - (intOf i).toNat)
  case atStart => exact ⟨0, by omega, rfl, rfl, fun z hz => by simp at hz, Below.refl _ _⟩
  case round =>
    obtain ⟨k, hk, rfl, rfl, ha, hnx⟩ := hrel
    have hbd := sumW_bound _ ha
    have hlen : (zs.take k).length = k := by rw [List.length_take]; have := HN.out; omega
    rw [hlen] at hbd
    have HA := Lib.hid ha
    clear ha hlen
    by_cases hlt : k < n
    · have hck : wr.cell? ⟨b, off + k, none⟩ = some (.int .i64 (zs.getD k 0)) := (hnx.cell (p := ⟨b, off + k, none⟩) hbw).trans (HC.out k hlt)
      have HS : Hid (sumW (zs.take (k + 1)) = sumW (zs.take k) + wt (zs.getD k 0) ∧ zs.take (k + 1) = zs.take k ++ [zs.getD k 0]) := by
        have e : zs.take (k + 1) = zs.take k ++ [zs.getD k 0] := by
          rw [List.take_add_one]; have := HN.out; simp [List.getD, show k < zs.length by omega]
        exact ⟨by rw [e, sumW_snoc], e⟩
      have HM : Hid (zs.getD k 0 ∈ zs) := by
        have hk' : k < zs.length := by have := HN.out; omega
        show zs.getD k 0 ∈ zs
        simp [List.getD, hk']
      generalize sumW (zs.take k) = s at *
      generalize zs.getD k 0 = z at *
      by_cases hz : isNice z
      · have hwb := wt_bound hz
        have HZ := Lib.hid hz
        clear hz
        go_wp2_with fail
        refine (rof_yes z HZ.out _).mono ?_
        rintro e w' ⟨rfl, hb2⟩
        go_wp2
        go_roundw
        case rel =>
          refine ⟨k + 1, by omega, by rw [HS.out.1], by go_num, ?_, bOn hnx hb2⟩
          rw [HS.out.2]
          intro y hy
          rcases List.mem_append.1 hy with hy | hy
          · exact HA.out y hy
          · simp at hy; subst hy; exact HZ.out
        case measure => simp [intOf]; omega
      · have HZ : Hid (¬ allNice zs) := fun h => hz (h z HM.out)
        have HZ2 := Lib.hid hz
        clear hz
        go_wp2_with fail
        refine (rof_no z HZ2.out _).mono ?_
        rintro e w' ⟨rfl, hb2⟩
        go_wp2
        go_ret2
        exact ⟨by unfold sumR0 sumE0; rw [if_neg HZ.out, if_neg HZ.out]; rfl, bOn hnx hb2⟩
    · obtain rfl : k = n := by omega
      have HE : Hid (zs.take k = zs) := by have := HN.out; exact List.take_of_length_le (by omega)
      go_wp2
      go_ret2
      have ha := HA.out
      rw [HE.out] at ha ⊢
      exact ⟨by unfold sumR0 sumE0; rw [if_pos ha, if_pos ha]; rfl, hnx⟩

theorem rsum_any (v : Value) (zs : List Int) (w : World) (hv : Ints .i64 w v zs) :
    Calls Tryd.prog 18 #[v] w fun e w' => e = .returned (.tuple #[.int .i64 (sumR zs), .int .i64 (sumE zs)]) ∧ Below w.heap.size w w' := by
  unfold sumR sumE
  by_cases hl : 64 < zs.length
  · obtain ⟨a, cap, rfl, hm, -, -⟩ := hv
    rw [if_pos hl, if_pos hl]
    refine (rsum_long zs a cap w hl (by unfold maxLen at hm; omega)).mono ?_
    rintro e w' ⟨rfl, rfl⟩
    exact ⟨rfl, Below.refl _ _⟩
  · rw [if_neg hl, if_neg hl]
    rcases hv.parts with ⟨rfl, a, cap, rfl⟩ | ⟨hp, hm, b, off, cap, rfl, hb, hc⟩
    · have h : allNice [] := fun n hn => by simp at hn
      unfold sumR0 sumE0
      rw [if_pos h, if_pos h]
      refine (rsum_nil a cap w).mono ?_
      rintro e w' ⟨rfl, rfl⟩
      exact ⟨rfl, Below.refl _ _⟩
    · exact rsum_some zs b off cap w hb hp (by omega) hc

end Go.Proofs.YtlfcnhggleagaaaDoor
