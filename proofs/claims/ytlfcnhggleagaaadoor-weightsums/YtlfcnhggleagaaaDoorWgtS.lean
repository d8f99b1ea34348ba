/-
  The walk of WeightSums: true at every input, in every world that holds the table of weights; nothing that was there turns.
-/
import Derived.Test.YtlfcnhggleagaaaDoorWgtP
namespace Go.Proofs.YtlfcnhggleagaaaDoor
open Go.RowKit Go.Shelf Wd Wg

theorem drop_back (l : List Int) (k : Nat) (h : k < l.length) (z : Int) (hz : l.getD (l.length - 1 - k) 0 = z) : l.reverse.take (k + 1) = l.reverse.take k ++ [z] := by
  rw [List.take_add_one]
  have : l.reverse[k]? = some z := by
    rw [List.getElem?_reverse h, ← hz]
    have h2 : l.length - 1 - k < l.length := by omega
    simp [List.getD, h2]
  rw [this]
  rfl

theorem nice_wf {n : Int} (h : isNice n) : (Lit.int .i64 n).wf = true := by unfold isNice at h; exact i64_wf (by omega)

namespace weightSums
set_option maxHeartbeats 400000 in
theorem walk_long (a b : Option Addr) (n m c d : Nat) (hn : 30 < n ∨ 30 < m) (h1 : n ≤ 9223372036854775807) (h2 : m ≤ 9223372036854775807) (w : World) (hT : Tab w) :
    Calls Tryd.prog 9 #[.slice a n c, .slice b m d] w fun e w' => e = .returned (.bool true) ∧ Below w.heap.size w w' := by
  have HT := Lib.hid hT
  clear hT
  by_cases hl : 30 < n
  · clear hn
    go_enter Tryd.func9, Tryd.ntmps9
    go_wp2_with fail
    refine (awake_any _ HT.out).mono ?_
    rintro e' w4 ⟨rfl, b4⟩
    go_wp2
    go_ret
    exact ⟨rfl, b4⟩
  · have hk : 30 < m := by omega
    clear hn
    go_enter Tryd.func9, Tryd.ntmps9
    go_wp2_with fail
    refine (awake_any _ HT.out).mono ?_
    rintro e' w4 ⟨rfl, b4⟩
    go_wp2
    go_ret
    exact ⟨rfl, b4⟩

/-- What one round of the first two loops does. -/
theorem round_step {wo wr w2 : World} {v' : Value} {zs : List Int} {k : Nat} {z y : Int} (hk : k < zs.length) (hz : zs.getD k 0 = z) (hy : z.tmod 40 = y) (hnx : Below wo.heap.size wo wr)
    (hown : Own .i64 w2 wo.heap.size 3 v' ((zs.take k).map nz ++ [-20 + y])) (hb : Below wo.heap.size (wr.alloc (.cells #[.int .i64 (-20 + y)] 3)) w2) :
    Own .i64 w2 wo.heap.size 3 v' ((zs.take (k + 1)).map nz) ∧ Below wo.heap.size wo w2 := by
  refine ⟨?_, (hnx.alloc hnx.size _).trans hb⟩
  rw [take_map zs k hk z hz]
  have : nz z = -20 + y := by unfold nz; rw [hy]
  rw [this]
  exact hown

theorem ints_one (wr : World) (y : Int) (h : 0 ≤ y ∧ y < 40) : Ints .i64 (wr.alloc (.cells #[.int .i64 (-20 + y)] 3)) (.slice (some ⟨wr.heap.size, 0, none⟩) 1 1) [-20 + y] :=
  ints_new wr 3 [-20 + y] (by simp [maxLen]) (by intro x hx; simp at hx; subst hx; exact i64_wf (by omega))
theorem ints_one' (wr : World) (y : Int) (h : isNice y) : Ints .i64 (wr.alloc (.cells #[.int .i64 y] 3)) (.slice (some ⟨wr.heap.size, 0, none⟩) 1 1) [y] :=
  ints_new wr 3 [y] (by simp [maxLen]) (by intro x hx; simp at hx; subst hx; exact nice_wf h)

theorem take_len (zs : List Int) (k : Nat) (h : zs.length ≤ 30) : ((zs.take k).map nz).length ≤ 30 := by rw [List.length_map, List.length_take]; omega

set_option maxRecDepth 100000 in
set_option maxHeartbeats 4000000 in
theorem walk_some (xs ys : List Int) (hx : xs.length ≤ 30) (hy : ys.length ≤ 30) (a b : Option Addr) (c d : Nat) (w : World)
    (ha : Ints .u8 w (.slice a xs.length c) xs) (hb : Ints .u8 w (.slice b ys.length d) ys) (hT : Tab w) :
    Calls Tryd.prog 9 #[.slice a xs.length c, .slice b ys.length d] w fun e w' => e = .returned (.bool true) ∧ Below w.heap.size w w' := by
  have HXW : Hid (∀ z ∈ xs, 0 ≤ z ∧ z ≤ 255) := fun z hz => bounds_u8 (ha.wf z hz)
  have HYW : Hid (∀ z ∈ ys, 0 ≤ z ∧ z ≤ 255) := fun z hz => bounds_u8 (hb.wf z hz)
  obtain ⟨n, hn⟩ : ∃ n, xs.length = n := ⟨_, rfl⟩
  obtain ⟨m, hm⟩ : ∃ m, ys.length = m := ⟨_, rfl⟩
  have HXL := Lib.hid hx
  have HYL := Lib.hid hy
  rw [hn] at hx ha ⊢
  rw [hm] at hy hb ⊢
  have HN := Lib.hid hn
  have HM := Lib.hid hm
  have HA := Lib.hid ha
  have HB := Lib.hid hb
  have HT := Lib.hid hT
  clear hn hm ha hb hT
  go_enter Tryd.func9, Tryd.ntmps9
  go_wp2_with fail
  refine (awake_any _ HT.out).mono ?_
  rintro e w1 ⟨rfl, b1⟩
  have HT1 := Lib.hid (HT.out.below b1)
  have HA1 := Lib.hid (HA.out.below b1)
  have HB1 := Lib.hid (HB.out.below b1)
  have HW1 := Lib.hid b1
  clear HT HA HB b1
  go_wp2
  go_loopw [6, 10] (fun v i wr => ∃ k : Nat, k ≤ n ∧ i = .int .i64 k ∧ Own .i64 wr w1.heap.size 3 v ((xs.take k).map nz) ∧ Below w1.heap.size w1 wr) (fun _ i _ => n - (intOf i).toNat)
  case atStart => exact ⟨0, by omega, rfl, Own.nil _ _ _ _, Below.refl _ _⟩
  case round =>
    obtain ⟨k, hk, rfl, hown, hnx⟩ := hrel
    by_cases hlt : k < n
    · have hkx : k < xs.length := by have := HN.out; omega
      rcases (HA1.out.below hnx).parts with ⟨h, _⟩ | ⟨hp, hm', b', off, cap, he, hbw, hc⟩
      · rw [h] at hkx; simp at hkx
      cases he
      obtain ⟨z, hz⟩ : ∃ z, xs.getD k 0 = z := ⟨_, rfl⟩
      have hck : wr.cell? ⟨b', off + k, none⟩ = some (.int .u8 z) := by rw [← hz]; exact hc k hkx
      have hzw : 0 ≤ z ∧ z ≤ 255 := by refine HXW.out z ?_; rw [← hz]; simp [List.getD, hkx]
      obtain ⟨y, hy'⟩ : ∃ y, z.tmod 40 = y := ⟨_, rfl⟩
      have hmod : 0 ≤ y ∧ y < 40 := by rw [← hy', Int.tmod_eq_emod_of_nonneg hzw.1]; omega
      have HR := Lib.hid (fun (v' : Value) (w2 : World) => round_step (v' := v') (w2 := w2) hkx hz hy' hnx)
      have HOW := Lib.hid hown
      clear hown hz hc hp hm' hkx hbw
      go_wp2_with (at_builtin; go_loud (refine wpList_append_ints (k := .i64) (bytes := 8) rfl (.tmp 39) (.tmp 47) 29 rfl w1.heap.size 3 Tryd.underlying29 info_int (by decide) ((xs.take k).map nz) [-20 + y] (HOW.out.alloc _) (ints_one wr y hmod) (by have := take_len xs k HXL.out; simp only [List.length_cons, List.length_nil]; omega) (by have := hnx.size; simp; omega) ?_); intro v' w2 hown2 hbel2)
      have hR := HR.out v' w2 hown2 hbel2
      exact ⟨⟨k + 1, by omega, by go_num, hR.1, hR.2⟩, by simp [intOf]; omega⟩
    · obtain rfl : k = n := by omega
      have HXA := Lib.hid (nz_all xs (fun z hz => (HXW.out z hz).1))
      have HE : Hid (xs.take k = xs) := by have := HN.out; exact List.take_of_length_le (by omega)
      rw [HE.out] at hown
      have HX2 := Lib.hid (hown.ints (fun z hz => nice_wf (HXA.out z hz)))
      have HT2 := Lib.hid (HT1.out.below hnx)
      have HB2 := Lib.hid (HB1.out.below hnx)
      have HW2 := Lib.hid (bOn HW1.out hnx)
      obtain ⟨w2, rfl⟩ : ∃ w2, w2 = wr := ⟨_, rfl⟩
      clear hown hnx HE HT1 HA1 HB1 HXW
      go_wp2
      go_loopw [7, 11] (fun v i wr => ∃ k : Nat, k ≤ m ∧ i = .int .i64 k ∧ Own .i64 wr w2.heap.size 3 v ((ys.take k).map nz) ∧ Below w2.heap.size w2 wr) (fun _ i _ => m - (intOf i).toNat)
      case atStart => exact ⟨0, by omega, rfl, Own.nil _ _ _ _, Below.refl _ _⟩
      case round =>
        obtain ⟨k2, hk, rfl, hown, hnx⟩ := hrel
        by_cases hlt : k2 < m
        · have hkx : k2 < ys.length := by have := HM.out; omega
          rcases (HB2.out.below hnx).parts with ⟨h, _⟩ | ⟨hp, hm', b', off, cap, he, hbw, hc⟩
          · rw [h] at hkx; simp at hkx
          cases he
          obtain ⟨z, hz⟩ : ∃ z, ys.getD k2 0 = z := ⟨_, rfl⟩
          have hck : wr.cell? ⟨b', off + k2, none⟩ = some (.int .u8 z) := by rw [← hz]; exact hc k2 hkx
          have hzw : 0 ≤ z ∧ z ≤ 255 := by refine HYW.out z ?_; rw [← hz]; simp [List.getD, hkx]
          obtain ⟨y, hy'⟩ : ∃ y, z.tmod 40 = y := ⟨_, rfl⟩
          have hmod : 0 ≤ y ∧ y < 40 := by rw [← hy', Int.tmod_eq_emod_of_nonneg hzw.1]; omega
          have HR := Lib.hid (fun (v' : Value) (w3 : World) => round_step (v' := v') (w2 := w3) hkx hz hy' hnx)
          have HOW := Lib.hid hown
          clear hown hz hc hp hm' hkx hbw
          go_wp2_with (at_builtin; go_loud (refine wpList_append_ints (k := .i64) (bytes := 8) rfl (.tmp 55) (.tmp 63) 29 rfl w2.heap.size 3 Tryd.underlying29 info_int (by decide) ((ys.take k2).map nz) [-20 + y] (HOW.out.alloc _) (ints_one wr y hmod) (by have := take_len ys k2 HYL.out; simp only [List.length_cons, List.length_nil]; omega) (by have := hnx.size; simp; omega) ?_); intro v' w3 hown2 hbel2)
          have hR := HR.out v' w3 hown2 hbel2
          exact ⟨⟨k2 + 1, by omega, by go_num, hR.1, hR.2⟩, by simp [intOf]; omega⟩
        · obtain rfl : k2 = m := by omega
          have HYA := Lib.hid (nz_all ys (fun z hz => (HYW.out z hz).1))
          have HE : Hid (ys.take k2 = ys) := by have := HM.out; exact List.take_of_length_le (by omega)
          rw [HE.out] at hown
          have HY3 := Lib.hid (hown.ints (fun z hz => nice_wf (HYA.out z hz)))
          have HX3 := Lib.hid (HX2.out.below hnx)
          have HT3 := Lib.hid (HT2.out.below hnx)
          have HW3 := Lib.hid (bOn HW2.out hnx)
          obtain ⟨w3, rfl⟩ : ∃ w3, w3 = wr := ⟨_, rfl⟩
          clear hown hnx HE HT2 HB2 HX2 HYW HW1 HW2
          obtain ⟨lx, hlx⟩ : ∃ l, xs.map nz = l := ⟨_, rfl⟩
          obtain ⟨ly, hly⟩ : ∃ l, ys.map nz = l := ⟨_, rfl⟩
          have HLX : Hid (lx.length ≤ 30) := by show lx.length ≤ 30; rw [← hlx, List.length_map]; exact HXL.out
          have HLY : Hid (ly.length ≤ 30) := by show ly.length ≤ 30; rw [← hly, List.length_map]; exact HYL.out
          rw [hlx] at HX3 HXA
          rw [hly] at HY3 HYA
          clear hlx hly HXL HYL HN HM
          obtain ⟨l, hl⟩ : ∃ l, [] ++ lx ++ ly = l := ⟨_, rfl⟩
          obtain ⟨N, hN⟩ : ∃ N, l.length = N := ⟨_, rfl⟩
          have HLA : Hid (allNice l) := by
            intro z hz
            rw [← hl] at hz
            rcases List.mem_append.1 hz with h | h
            · exact HXA.out z (by simpa using h)
            · exact HYA.out z h
          have HLS : Hid (sumW l = sumW lx + sumW ly) := by show sumW l = _; rw [← hl, List.nil_append, sumW_append]
          have hN60 : N ≤ 60 := by have := HLX.out; have := HLY.out; rw [← hN, ← hl]; simp; omega
          have HL := Lib.hid hl
          have HN := Lib.hid hN
          clear hl hN
          go_wp2_with (first | (at_builtin; refine wpList_append_ints (k := .i64) (bytes := 8) rfl (.const (.slice none 0 0)) (.tmp 65) 29 rfl w3.heap.size 3 Tryd.underlying29 info_int (by decide) [] lx (Own.nil _ _ _ _) HX3.out (by have := HLX.out; simp only [List.length_nil]; omega) (Nat.le_refl _) ?_; intro v' w4 hown4 hbel4; have HY4 := Lib.hid (HY3.out.below hbel4); have HO4 := Lib.hid hown4; clear hown4) | (at_builtin; refine wpList_append_ints (k := .i64) (bytes := 8) rfl (.tmp 66) (.tmp 67) 29 rfl w3.heap.size 3 Tryd.underlying29 info_int (by decide) ([] ++ lx) ly HO4.out HY4.out (by have := HLX.out; have := HLY.out; simp only [List.nil_append]; omega) hbel4.size ?_; intro v5 w5 hown5 hbel5; rw [HL.out] at hown5; have HI5 := Lib.hid (hown5.ints (fun z hz => nice_wf (HLA.out z hz))); clear hown5; obtain ⟨ao, co, rfl, -, -, -⟩ := HI5.out; rw [HN.out] at HI5 ⊢; have HBL := Lib.hid (hbel4.trans hbel5); clear hbel4 hbel5 HY4 HO4))
          have HX5 := Lib.hid (HX3.out.below HBL.out)
          have HY5 := Lib.hid (HY3.out.below HBL.out)
          have HT5 := Lib.hid (HT3.out.below HBL.out)
          have HW5 := Lib.hid (bOn HW3.out HBL.out)
          clear HX3 HY3 HT3 HW3 HBL HL
          go_loopw [9, 12] (fun v i wr => ∃ k : Nat, k ≤ N ∧ i = .int .i64 ((N : Int) - 1 - k) ∧ Own .i64 wr w5.heap.size 3 v (l.reverse.take k) ∧ Below w5.heap.size w5 wr) (fun _ i _ => (intOf i + 1).toNat)
          case atStart => exact ⟨0, by omega, by simp, Own.nil _ _ _ _, Below.refl _ _⟩
          case round =>
            obtain ⟨k3, hk, rfl, hown, hnx⟩ := hrel
            by_cases hlt : k3 < N
            · obtain ⟨j, hj⟩ : ∃ j : Nat, (N : Int) - 1 - k3 = j := ⟨N - 1 - k3, by omega⟩
              have hkx : k3 < l.length := by have := HN.out; omega
              rcases (HI5.out.below hnx).parts with ⟨h, _⟩ | ⟨hp, hm', b', off, cap, he, hbw, hc⟩
              · rw [h] at hkx; simp at hkx
              simp only [Value.slice.injEq] at he
              obtain ⟨rfl, -, rfl⟩ := he
              have hjl : l.length - 1 - k3 = j := by have := HN.out; omega
              obtain ⟨z, hz⟩ : ∃ z, l.getD j 0 = z := ⟨_, rfl⟩
              have hck : wr.cell? ⟨b', off + j, none⟩ = some (.int .i64 z) := by rw [← hz]; exact hc j (by omega)
              have HZ : Hid (l.reverse.take (k3 + 1) = l.reverse.take k3 ++ [z]) := drop_back l k3 hkx z (by rw [hjl]; exact hz)
              have HZN : Hid (isNice z) := by
                refine HLA.out z ?_
                have hj' : j < l.length := by omega
                rw [← hz]
                simp [List.getD, hj']
              have HOW := Lib.hid hown
              have HRL : Hid ((l.reverse.take k3).length ≤ 60) := by show (l.reverse.take k3).length ≤ 60; rw [List.length_take]; omega
              have HJ : Hid ((j : Int) - 1 = (N : Int) - 1 - ((k3 + 1 : Nat) : Int)) := by show (j : Int) - 1 = _; omega
              have hjN : j < N := by omega
              rw [hj]
              clear hown hz hc hp hm' hkx hbw hjl hj
              go_wp2_with (at_builtin; go_loud (refine wpList_append_ints (k := .i64) (bytes := 8) rfl (.tmp 76) (.tmp 81) 29 rfl w5.heap.size 3 Tryd.underlying29 info_int (by decide) (l.reverse.take k3) [z] (HOW.out.alloc _) (ints_one' wr z HZN.out) (by have := HRL.out; simp only [List.length_cons, List.length_nil]; omega) (by have := hnx.size; simp; omega) ?_); intro v' w6 hown2 hbel2)
              exact ⟨⟨k3 + 1, by omega, congrArg (Value.int .i64) HJ.out, by rw [HZ.out]; exact hown2, (hnx.alloc hnx.size _).trans hbel2⟩, by simp only [intOf]; omega⟩
            · obtain rfl : k3 = N := by omega
              have HE : Hid (l.reverse.take k3 = l.reverse) := by have := HN.out; exact List.take_of_length_le (by simp; omega)
              rw [HE.out] at hown
              have HLR : Hid (allNice l.reverse) := fun z hz => HLA.out z (by simpa using hz)
              have HBK := Lib.hid (hown.ints (fun z hz => nice_wf (HLR.out z hz)))
              have HT6 := Lib.hid (HT5.out.below hnx)
              have HX6 := Lib.hid (HX5.out.below hnx)
              have HY6 := Lib.hid (HY5.out.below hnx)
              have HI6 := Lib.hid (HI5.out.below hnx)
              have HW6 := Lib.hid (bOn HW5.out hnx)
              have HSX := Lib.hid (sum_ok lx (by have := HLX.out; omega) HXA.out)
              have HSY := Lib.hid (sum_ok ly (by have := HLY.out; omega) HYA.out)
              have HSL := Lib.hid (sum_ok l (by have := HN.out; omega) HLA.out)
              have HSR := Lib.hid (sum_ok l.reverse (by have := HN.out; simp; omega) HLR.out)
              have HRV := Lib.hid (sumW_reverse l)
              have hsx := sumW_bound lx HXA.out
              have hsy := sumW_bound ly HYA.out
              have hlx := HLX.out
              have hly := HLY.out
              have hbx : 0 ≤ sumW lx ∧ sumW lx ≤ 3000000 := by omega
              have hby : 0 ≤ sumW ly ∧ sumW ly ≤ 3000000 := by omega
              clear hown hnx HT5 HX5 HY5 HI5 HW5 HE hsx hsy hlx hly
              go_wp2_with fail
              refine (sum_any _ lx _ HT6.out HX6.out).mono ?_
              rintro e w7 ⟨rfl, rfl⟩
              rw [HSX.out.1, HSX.out.2]
              go_wp2_with fail
              refine (sum_any _ ly _ HT6.out HY6.out).mono ?_
              rintro e w7 ⟨rfl, rfl⟩
              rw [HSY.out.1, HSY.out.2]
              go_wp2_with fail
              refine (sum_any _ l _ HT6.out HI6.out).mono ?_
              rintro e w7 ⟨rfl, rfl⟩
              rw [HSL.out.1, HSL.out.2, HLS.out]
              go_wp2_with fail
              refine (sum_any _ l.reverse _ HT6.out HBK.out).mono ?_
              rintro e w7 ⟨rfl, rfl⟩
              rw [HSR.out.1, HSR.out.2, HRV.out, HLS.out]
              generalize sumW lx = p at *
              generalize sumW ly = q at *
              go_wp2
              go_ret
              exact ⟨rfl, HW6.out⟩

theorem walk (v : Value) (xs : List Int) (v2 : Value) (ys : List Int) (w : World) (ha : Ints .u8 w v xs) (hb : Ints .u8 w v2 ys) (hT : Tab w) :
    Calls Tryd.prog 9 #[v, v2] w fun e w' => e = .returned (.bool true) ∧ Below w.heap.size w w' := by
  have ha' := ha
  have hb' := hb
  obtain ⟨a, c, rfl, hm, -, -⟩ := ha
  obtain ⟨b, d, rfl, hm2, -, -⟩ := hb
  by_cases h : 30 < xs.length ∨ 30 < ys.length
  · unfold maxLen at hm hm2
    exact walk_long a b _ _ c d h (by omega) (by omega) w hT
  · exact walk_some xs ys (by omega) (by omega) a b c d w ha' hb' hT
end weightSums
end Go.Proofs.YtlfcnhggleagaaaDoor
