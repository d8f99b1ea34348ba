/-
  Contracts of layer 2's Delta, Sum and Share, of every argument in its kind's bounds, in every world that holds the table of weights.
-/
import Derived.Test.YtlfcnhggleagaaaDoorWgtA
namespace Go.Proofs.YtlfcnhggleagaaaDoor
open Go.RowKit Go.Shelf Wd Wg

set_option maxHeartbeats 400000 in
theorem delta_no (d x : Int) (h : d < 0 ∨ x < 1) (w : World) :
    Calls Tryd.prog 12 #[.int .i64 d, .int .i64 x] w fun e w' => e = .returned (.tuple #[.int .i64 0, .int .i64 1]) ∧ Below w.heap.size w w' := by
  by_cases h1 : d < 0
  · clear h
    go_enter Tryd.func12, Tryd.ntmps12
    go_wp2
    go_ret2
    exact ⟨rfl, Below.refl _ _⟩
  · have h2 : x < 1 := by omega
    clear h
    go_enter Tryd.func12, Tryd.ntmps12
    go_wp2
    go_ret2
    exact ⟨rfl, Below.refl _ _⟩

set_option maxHeartbeats 400000 in
theorem delta_yes (d x : Int) (hd : 0 ≤ d) (hd2 : d ≤ 9223372036854775807) (hx : 1 ≤ x) (hx2 : x ≤ 9223372036854775807) (w : World) :
    Calls Tryd.prog 12 #[.int .i64 d, .int .i64 x] w fun e w' => e = .returned (.tuple #[.int .i64 (dlt d x), .int .i64 0]) ∧ Below w.heap.size w w' := by
  have ud : U d := U_nat d hd hd2
  have ux : U x := U_nat x (by omega) hx2
  have hw1 : IntKind.u64.wrap d = d := wrap_U ud
  have hw2 : IntKind.u64.wrap x = x := wrap_U ux
  have us := U_scl 1024 d x U_1024 ud ux
  go_enter Tryd.func12, Tryd.ntmps12
  go_wp2_with fail
  refine (scale_any 1024 d x U_1024 ud ux _).mono ?_
  rintro e w1 ⟨rfl, hb1⟩
  have HD : Hid (dlt d x = min (scl 1024 d x) step48) := rfl
  generalize scl 1024 d x = s at *
  clear hw1 hw2 ud ux
  have hs0 := us.1
  clear us
  by_cases hle : s ≤ 281474976710656
  · have HE : Hid (dlt d x = s) := HD.out.trans (Int.min_eq_left hle)
    clear HD
    go_wp2
    go_ret2
    exact ⟨by rw [HE.out]; rfl, hb1⟩
  · have HE : Hid (dlt d x = 281474976710656) := HD.out.trans (Int.min_eq_right (by unfold step48; omega))
    clear HD
    go_wp2
    go_ret2
    exact ⟨by rw [HE.out]; rfl, hb1⟩

/-- Sum of a list without elements. -/
theorem sum_nil (a : Option Addr) (cap : Nat) (w : World) :
    Calls Tryd.prog 17 #[.slice a 0 cap] w fun e w' => e = .returned (.tuple #[.int .i64 0, .int .i64 0]) ∧ w = w' := by
  go_enter Tryd.func17, Tryd.ntmps17
  go_wp2
  go_loop [4, 14] (fun s i => s = .int .i64 0 ∧ i = .int .i64 0) (fun _ _ => 0)
  case atStart => exact ⟨rfl, rfl⟩
  case round =>
    obtain ⟨rfl, rfl⟩ := hrel
    go_wp2
    go_ret2
    exact ⟨rfl, rfl⟩

theorem sum_long (zs : List Int) (a : Option Addr) (cap : Nat) (w : World) (hl : 64 < zs.length) (hm : zs.length ≤ 9223372036854775807) :
    Calls Tryd.prog 17 #[.slice a zs.length cap] w fun e w' => e = .returned (.tuple #[.int .i64 0, .int .i64 2]) ∧ w = w' := by
  generalize zs.length = n at *
  go_enter Tryd.func17, Tryd.ntmps17
  go_wp2
  go_ret2
  exact ⟨rfl, rfl⟩

set_option maxHeartbeats 400000 in
theorem sum_some (zs : List Int) (b off cap : Nat) (w : World) (hT : Tab w) (hp : 0 < zs.length) (hl : zs.length ≤ 64) (hc : ∀ i, i < zs.length → w.cell? ⟨b, off + i, none⟩ = some (.int .i64 (zs.getD i 0))) :
    Calls Tryd.prog 17 #[.slice (some ⟨b, off, none⟩) zs.length cap] w fun e w' => e = .returned (.tuple #[.int .i64 (sumR0 zs), .int .i64 (sumE0 zs)]) ∧ w = w' := by
  obtain ⟨n, hn⟩ : ∃ n, zs.length = n := ⟨_, rfl⟩
  rw [hn] at hp hl hc ⊢
  have HN := Lib.hid hn
  clear hn
  go_enter Tryd.func17, Tryd.ntmps17
  go_wp2
  go_loop [4, 14] (fun s i => ∃ k : Nat, k ≤ n ∧ s = .int .i64 (sumW (zs.take k)) ∧ i = .int .i64 k ∧ allNice (zs.take k)) (fun _ i => n - (intOf i).toNat)
  case atStart => exact ⟨0, by omega, rfl, rfl, fun z hz => by simp at hz⟩
  case round =>
    obtain ⟨k, hk, rfl, rfl, ha⟩ := hrel
    have hbd := sumW_bound _ ha
    have hlen : (zs.take k).length = k := by rw [List.length_take]; have := HN.out; omega
    rw [hlen] at hbd
    have HA := Lib.hid ha
    have HT := Lib.hid hT
    clear ha hlen hT
    by_cases hlt : k < n
    · have hck := hc k hlt
      clear hc
      have HS : Hid (sumW (zs.take (k + 1)) = sumW (zs.take k) + wt (zs.getD k 0) ∧ zs.take (k + 1) = zs.take k ++ [zs.getD k 0]) := by
        have e : zs.take (k + 1) = zs.take k ++ [zs.getD k 0] := by
          rw [List.take_add_one]; have := HN.out; simp [List.getD, show k < zs.length by omega]
        exact ⟨by rw [e, sumW_snoc], e⟩
      have HM : Hid (zs.getD k 0 ∈ zs) := by
        have hk' : k < zs.length := by have := HN.out; omega
        show zs.getD k 0 ∈ zs
        simp [List.getD, hk']
      generalize sumW (zs.take k) = s at *
      generalize zs.getD k 0 = z at *
      by_cases hz : isNice z
      · have hwb := wt_bound hz
        have HZ := Lib.hid hz
        clear hz
        go_wp2_with fail
        refine (of_yes z HZ.out _ HT.out).mono ?_
        rintro e w' ⟨rfl, rfl⟩
        go_wp2
        refine ⟨⟨k + 1, by omega, by rw [HS.out.1], by go_num, ?_⟩, by simp [intOf]; omega⟩
        rw [HS.out.2]
        intro y hy
        rcases List.mem_append.1 hy with hy | hy
        · exact HA.out y hy
        · simp at hy; subst hy; exact HZ.out
      · have HZ : Hid (¬ allNice zs) := fun h => hz (h z HM.out)
        have HZ2 := Lib.hid hz
        clear hz
        go_wp2_with fail
        refine (of_no z HZ2.out _).mono ?_
        rintro e w' ⟨rfl, rfl⟩
        go_wp2
        go_ret2
        exact ⟨by unfold sumR0 sumE0; rw [if_neg HZ.out, if_neg HZ.out]; rfl, rfl⟩
    · obtain rfl : k = n := by omega
      have HE : Hid (zs.take k = zs) := by have := HN.out; exact List.take_of_length_le (by omega)
      clear hc
      go_wp2
      go_ret2
      have ha := HA.out
      rw [HE.out] at ha ⊢
      exact ⟨by unfold sumR0 sumE0; rw [if_pos ha, if_pos ha]; rfl, rfl⟩

/-- **Sum**, of whatever slice of numbers. -/
theorem sum_any (v : Value) (zs : List Int) (w : World) (hT : Tab w) (hv : Ints .i64 w v zs) :
    Calls Tryd.prog 17 #[v] w fun e w' => e = .returned (.tuple #[.int .i64 (sumR zs), .int .i64 (sumE zs)]) ∧ w = w' := by
  unfold sumR sumE
  by_cases hl : 64 < zs.length
  · obtain ⟨a, cap, rfl, hm, -, -⟩ := hv
    rw [if_pos hl, if_pos hl]
    exact sum_long zs a cap w hl (by unfold maxLen at hm; omega)
  · rw [if_neg hl, if_neg hl]
    rcases hv.parts with ⟨rfl, a, cap, rfl⟩ | ⟨hp, hm, b, off, cap, rfl, -, hc⟩
    · have h : allNice [] := fun n hn => by simp at hn
      unfold sumR0 sumE0
      rw [if_pos h, if_pos h]
      exact sum_nil a cap w
    · exact sum_some zs b off cap w hT hp (by omega) hc

end Go.Proofs.YtlfcnhggleagaaaDoor
