/-
  LifeWays returns true at every input, and turns nothing that was there: from each word a way of two events at most leads to Free, and from there another one to Blocking, with the next Gen. The table of places is tied to the program's text.
-/
import Derived.Test.YtijbnojcehjcaaaDoorLfG
import Derived.Test.YtijbnojcehjcaaaDoorPkL
import Derived.Test.YtijbnojcehjcaaaDoorPost
namespace Go.Proofs.YtijbnojcehjcaaaDoor.lifeWays
open Go.ChangeShapes Go.WideShapes Go.ChangeAt Go.RowKit Pk Lf

/-- One event of a word that is told by its parts. -/
theorem pl_word {k c : Int} {b : Bool} {s g : Int} (h : may k c b s g) {ev cpu : Int} (he : 0 ≤ ev ∧ ev ≤ 15) (hc : 0 ≤ cpu ∧ cpu ≤ 63) (ho : ofB ev.toNat k b = true) (hf : ¬ (ev = 0 ∧ g = 4294967295)) (l : List (Int × Int))
    {v : Int} {n : Nat} (hl : pl (word (toK ev.toNat) (chC ev.toNat c cpu) (chB ev.toNat) (chS ev.toNat s) (chG ev.toNat g)) l = (v, n)) : pl (word k c b s g) ((ev, cpu) :: l) = (v, n + 1) := by
  have := nx_word h he hc ho hf
  simp only [pl, this.1, this.2, if_true, hl]
def again : List (Int × Int) := [(0, 1), (2, 0), (3, 0), (4, 0), (5, 0), (7, 0)]
theorem again_pl (c : Int) (hc : 0 ≤ c ∧ c ≤ 63) : pl (word 0 c false 0 3) again = (word 7 1 false 1 4, 6) := by
  refine pl_word (by unfold may; simp; omega) (by decide) (by decide) (by decide) (by decide) _ ?_
  show pl (word 1 1 false 0 4) [(2, 0), (3, 0), (4, 0), (5, 0), (7, 0)] = (word 7 1 false 1 4, 5)
  decide
theorem mayC (k c : Int) (b : Bool) (hk : 0 ≤ k ∧ k ≤ 7) (hb : b = true → k = 7) (hc : 0 ≤ c ∧ c ≤ 63) : may k c b 0 3 := ⟨hk, hc, by decide, by decide, hb⟩
theorem exit_pl (k c : Int) (b : Bool) (hk : k = 1 ∨ k = 3 ∨ k = 4 ∨ k = 5) (hb : b = false) (hc : 0 ≤ c ∧ c ≤ 63) : pl (word k c b 0 3) [(1, 0)] = (word 0 0 false 0 3, 1) := by
  subst hb
  refine pl_word (mayC k c false (by omega) (by simp) hc) (by decide) (by decide) ?_ (by simp) _ rfl
  rcases hk with rfl | rfl | rfl | rfl <;> rfl
theorem two_pl (k c : Int) (b : Bool) (ev : Int) (k' : Int) (hk : (k = 2 ∧ b = false ∧ ev = 3 ∧ k' = 3) ∨ (k = 6 ∧ b = false ∧ ev = 14 ∧ k' = 4) ∨ (k = 7 ∧ b = false ∧ ev = 9 ∧ k' = 1) ∨ (k = 7 ∧ b = true ∧ ev = 10 ∧ k' = 3)) (hc : 0 ≤ c ∧ c ≤ 63) : pl (word k c b 0 3) [(ev, 0), (1, 0)] = (word 0 0 false 0 3, 2) := by
  rcases hk with ⟨rfl, rfl, rfl, rfl⟩ | ⟨rfl, rfl, rfl, rfl⟩ | ⟨rfl, rfl, rfl, rfl⟩ | ⟨rfl, rfl, rfl, rfl⟩
  · exact pl_word (mayC 2 c false (by decide) (by simp) hc) (by decide) (by decide) (by decide) (by simp) _ (exit_pl 3 c false (by decide) rfl hc)
  · exact pl_word (mayC 6 c false (by decide) (by simp) hc) (by decide) (by decide) (by decide) (by simp) _ (exit_pl 4 c false (by decide) rfl hc)
  · exact pl_word (mayC 7 c false (by decide) (by simp) hc) (by decide) (by decide) (by decide) (by simp) _ (exit_pl 1 c false (by decide) rfl hc)
  · exact pl_word (mayC 7 c true (by decide) (by simp) hc) (by decide) (by decide) (by decide) (by simp) _ (exit_pl 3 c false (by decide) rfl hc)
theorem ends (c : Int) (hc : 0 ≤ c ∧ c ≤ 63) : K (word 0 c false 0 3) = 0 ∧ G (word 0 c false 0 3) = 3 := by
  have := word_parts (mayC 0 c false (by decide) (by simp) hc)
  exact ⟨this.1, this.2.2.2.2⟩
theorem prs_none (w : World) : Prs w (.slice none 0 0) [] := ⟨none, 0, rfl, Nat.zero_le _, by simp, fun h => absurd rfl h⟩
theorem last : K (word 7 1 false 1 4) = 7 ∧ G (word 7 1 false 1 4) = 4 := by decide

set_option maxRecDepth 100000 in
set_option maxHeartbeats 4000000 in
theorem way_k0false (kind cpu : Int) (hk : 0 ≤ kind ∧ kind ≤ 255) (hcb : 0 ≤ cpu ∧ cpu ≤ 255) (hr : kind % 8 = 0) (W : World) (hT : Tab W) :
    Calls Tryd.prog 8 #[.int .u8 kind, .bool false, .int .u8 cpu] W fun e w' => e = .returned (.bool true) ∧ Below W.heap.size W w' := by
  have HT := Lib.hid hT
  obtain ⟨c, hcc⟩ : ∃ c, cpu % 64 = c := ⟨_, rfl⟩
  have hc : 0 ≤ c ∧ c ≤ 63 := by omega
  have t1 : kind.tmod 8 = 0 := by rw [Int.tmod_eq_emod_of_nonneg hk.1]; exact hr
  have t2 : cpu.tmod 64 = c := by rw [Int.tmod_eq_emod_of_nonneg hcb.1]; exact hcc
  have hm := mayC 0 c false (by omega) (by simp) hc
  have HPK := Lib.hid (pk_yes hm)
  have HP2 := Lib.hid (again_pl c (by omega))
  have HKV := Lib.hid (ends c (by omega))
  have HL := Lib.hid last
  have HU1 := Lib.hid (isW_U (word_isW hm))
  have HU2 := Lib.hid (isW_U (word_isW (mayC 0 c false (by decide) (by simp) (by omega))))
  have HU3 : Hid (U (word 7 1 false 1 4)) := Lib.hid (by unfold U; decide)
  clear hT hm
  have k0 : 0 ≤ kind := hk.1
  have k1 : kind ≤ 255 := hk.2
  have u0 : 0 ≤ cpu := hcb.1
  have u1 : cpu ≤ 255 := hcb.2
  clear hk hcb
  go_enter Tryd.func8, Tryd.ntmps8
  go_wp2_with fail
  refine (awake_any _ HT.out).mono ?_
  rintro e' w_h1 ⟨rfl, h1⟩
  have H1 := Lib.hid h1
  clear h1
  go_wp2_with fail
  refine (pack_any 0 c false 0 3 _ (HT.out.below (bOn H1.out (by go_grown)))).mono ?_
  rintro e' w_h2 ⟨rfl, h2⟩
  rw [HPK.out.1, HPK.out.2]
  have H2 : Hid (Below W.heap.size W w_h2) := Lib.hid (bOn H1.out (bOn (by go_grown) h2))
  have HX : Hid (St w_h2 w_h1.heap.size 0 c false 0 3) := Lib.hid ((St.new w_h1 0 c false 0 3).below h2 (by simp))
  clear h2 HPK
  generalize word 0 c false 0 3 = wd at *
  obtain ⟨⟨x0, x1, x2, x3, x4⟩, -, hx⟩ := HX.out.all
  go_wp2_with fail
  refine (play_any wd HU1.out [] _ _ (HT.out.below (bOn H2.out (by go_grown))) (prs_none _)).mono ?_
  rintro e' w_h3 ⟨rfl, h3⟩
  rw [show pl wd [] = (wd, 0) from rfl]
  have H3 : Hid (Below W.heap.size W w_h3) := Lib.hid (bOn H2.out (bOn (by go_grown) h3))
  clear h3 x0 x1 x2 x3 x4 hx
  go_wp2_with fail
  refine (play_any wd HU2.out again _ _ (HT.out.below (bOn H3.out (by go_grown))) (prs_new w_h3 _ again (by unfold maxLen; decide) (by decide) _ rfl _ rfl _ rfl _)).mono ?_
  rintro e' w_h4 ⟨rfl, h4⟩
  rw [HP2.out]
  have H4 : Hid (Below W.heap.size W w_h4) := Lib.hid (bOn H3.out (bOn (by go_grown) h4))
  clear h4 HP2
  generalize word 7 1 false 1 4 = wu at *
  go_wp2_with fail
  refine (kind_any wd HU2.out _ (HT.out.below H4.out)).mono ?_
  rintro e' w_h5 ⟨rfl, h5⟩
  rw [HKV.out.1]
  have H5 := Lib.hid (bOn H4.out h5)
  clear h5
  go_wp2_with fail
  refine (gen_any wd HU2.out _ (HT.out.below H5.out)).mono ?_
  rintro e' w_h6 ⟨rfl, h6⟩
  rw [HKV.out.2]
  have H6 := Lib.hid (bOn H5.out h6)
  clear h6
  go_wp2_with fail
  refine (kind_any wu HU3.out _ (HT.out.below H6.out)).mono ?_
  rintro e' w_h7 ⟨rfl, h7⟩
  rw [HL.out.1]
  have H7 := Lib.hid (bOn H6.out h7)
  clear h7
  go_wp2_with fail
  refine (gen_any wu HU3.out _ (HT.out.below H7.out)).mono ?_
  rintro e' w_h8 ⟨rfl, h8⟩
  rw [HL.out.2]
  have H8 := Lib.hid (bOn H7.out h8)
  clear h8
  go_wp2
  go_ret
  exact ⟨rfl, H8.out⟩

set_option maxRecDepth 100000 in
set_option maxHeartbeats 4000000 in
theorem way_k2false (kind cpu : Int) (hk : 0 ≤ kind ∧ kind ≤ 255) (hcb : 0 ≤ cpu ∧ cpu ≤ 255) (hr : kind % 8 = 2) (W : World) (hT : Tab W) :
    Calls Tryd.prog 8 #[.int .u8 kind, .bool false, .int .u8 cpu] W fun e w' => e = .returned (.bool true) ∧ Below W.heap.size W w' := by
  have HT := Lib.hid hT
  obtain ⟨c, hcc⟩ : ∃ c, cpu % 64 = c := ⟨_, rfl⟩
  have hc : 0 ≤ c ∧ c ≤ 63 := by omega
  have t1 : kind.tmod 8 = 2 := by rw [Int.tmod_eq_emod_of_nonneg hk.1]; exact hr
  have t2 : cpu.tmod 64 = c := by rw [Int.tmod_eq_emod_of_nonneg hcb.1]; exact hcc
  have hm := mayC 2 c false (by omega) (by simp) hc
  have HPK := Lib.hid (pk_yes hm)
  have HP1 := Lib.hid (two_pl 2 c false 3 3 (by decide) hc)
  have HP2 := Lib.hid (again_pl 0 (by omega))
  have HKV := Lib.hid (ends 0 (by omega))
  have HL := Lib.hid last
  have HU1 := Lib.hid (isW_U (word_isW hm))
  have HU2 := Lib.hid (isW_U (word_isW (mayC 0 0 false (by decide) (by simp) (by omega))))
  have HU3 : Hid (U (word 7 1 false 1 4)) := Lib.hid (by unfold U; decide)
  clear hT hm
  have k0 : 0 ≤ kind := hk.1
  have k1 : kind ≤ 255 := hk.2
  have u0 : 0 ≤ cpu := hcb.1
  have u1 : cpu ≤ 255 := hcb.2
  clear hk hcb
  go_enter Tryd.func8, Tryd.ntmps8
  go_wp2_with fail
  refine (awake_any _ HT.out).mono ?_
  rintro e' w_h1 ⟨rfl, h1⟩
  have H1 := Lib.hid h1
  clear h1
  go_wp2_with fail
  refine (pack_any 2 c false 0 3 _ (HT.out.below (bOn H1.out (by go_grown)))).mono ?_
  rintro e' w_h2 ⟨rfl, h2⟩
  rw [HPK.out.1, HPK.out.2]
  have H2 : Hid (Below W.heap.size W w_h2) := Lib.hid (bOn H1.out (bOn (by go_grown) h2))
  have HX : Hid (St w_h2 w_h1.heap.size 2 c false 0 3) := Lib.hid ((St.new w_h1 2 c false 0 3).below h2 (by simp))
  clear h2 HPK
  generalize word 2 c false 0 3 = wd at *
  obtain ⟨⟨x0, x1, x2, x3, x4⟩, -, hx⟩ := HX.out.all
  go_wp2_with fail
  refine (play_any wd HU1.out [(3, 0), (1, 0)] _ _ (HT.out.below (bOn H2.out (by go_grown))) (prs_new w_h2 _ [(3, 0), (1, 0)] (by unfold maxLen; simp) (by decide) _ rfl _ rfl _ rfl _)).mono ?_
  rintro e' w_h3 ⟨rfl, h3⟩
  rw [HP1.out]
  have H3 : Hid (Below W.heap.size W w_h3) := Lib.hid (bOn H2.out (bOn (by go_grown) h3))
  clear h3 HP1 x0 x1 x2 x3 x4 hx
  generalize word 0 0 false 0 3 = wv at *
  go_wp2_with fail
  refine (play_any wv HU2.out again _ _ (HT.out.below (bOn H3.out (by go_grown))) (prs_new w_h3 _ again (by unfold maxLen; decide) (by decide) _ rfl _ rfl _ rfl _)).mono ?_
  rintro e' w_h4 ⟨rfl, h4⟩
  rw [HP2.out]
  have H4 : Hid (Below W.heap.size W w_h4) := Lib.hid (bOn H3.out (bOn (by go_grown) h4))
  clear h4 HP2
  generalize word 7 1 false 1 4 = wu at *
  go_wp2_with fail
  refine (kind_any wv HU2.out _ (HT.out.below H4.out)).mono ?_
  rintro e' w_h5 ⟨rfl, h5⟩
  rw [HKV.out.1]
  have H5 := Lib.hid (bOn H4.out h5)
  clear h5
  go_wp2_with fail
  refine (gen_any wv HU2.out _ (HT.out.below H5.out)).mono ?_
  rintro e' w_h6 ⟨rfl, h6⟩
  rw [HKV.out.2]
  have H6 := Lib.hid (bOn H5.out h6)
  clear h6
  go_wp2_with fail
  refine (kind_any wu HU3.out _ (HT.out.below H6.out)).mono ?_
  rintro e' w_h7 ⟨rfl, h7⟩
  rw [HL.out.1]
  have H7 := Lib.hid (bOn H6.out h7)
  clear h7
  go_wp2_with fail
  refine (gen_any wu HU3.out _ (HT.out.below H7.out)).mono ?_
  rintro e' w_h8 ⟨rfl, h8⟩
  rw [HL.out.2]
  have H8 := Lib.hid (bOn H7.out h8)
  clear h8
  go_wp2
  go_ret
  exact ⟨rfl, H8.out⟩

set_option maxRecDepth 100000 in
set_option maxHeartbeats 4000000 in
theorem way_k6false (kind cpu : Int) (hk : 0 ≤ kind ∧ kind ≤ 255) (hcb : 0 ≤ cpu ∧ cpu ≤ 255) (hr : kind % 8 = 6) (W : World) (hT : Tab W) :
    Calls Tryd.prog 8 #[.int .u8 kind, .bool false, .int .u8 cpu] W fun e w' => e = .returned (.bool true) ∧ Below W.heap.size W w' := by
  have HT := Lib.hid hT
  obtain ⟨c, hcc⟩ : ∃ c, cpu % 64 = c := ⟨_, rfl⟩
  have hc : 0 ≤ c ∧ c ≤ 63 := by omega
  have t1 : kind.tmod 8 = 6 := by rw [Int.tmod_eq_emod_of_nonneg hk.1]; exact hr
  have t2 : cpu.tmod 64 = c := by rw [Int.tmod_eq_emod_of_nonneg hcb.1]; exact hcc
  have hm := mayC 6 c false (by omega) (by simp) hc
  have HPK := Lib.hid (pk_yes hm)
  have HP1 := Lib.hid (two_pl 6 c false 14 4 (by decide) hc)
  have HP2 := Lib.hid (again_pl 0 (by omega))
  have HKV := Lib.hid (ends 0 (by omega))
  have HL := Lib.hid last
  have HU1 := Lib.hid (isW_U (word_isW hm))
  have HU2 := Lib.hid (isW_U (word_isW (mayC 0 0 false (by decide) (by simp) (by omega))))
  have HU3 : Hid (U (word 7 1 false 1 4)) := Lib.hid (by unfold U; decide)
  clear hT hm
  have k0 : 0 ≤ kind := hk.1
  have k1 : kind ≤ 255 := hk.2
  have u0 : 0 ≤ cpu := hcb.1
  have u1 : cpu ≤ 255 := hcb.2
  clear hk hcb
  go_enter Tryd.func8, Tryd.ntmps8
  go_wp2_with fail
  refine (awake_any _ HT.out).mono ?_
  rintro e' w_h1 ⟨rfl, h1⟩
  have H1 := Lib.hid h1
  clear h1
  go_wp2_with fail
  refine (pack_any 6 c false 0 3 _ (HT.out.below (bOn H1.out (by go_grown)))).mono ?_
  rintro e' w_h2 ⟨rfl, h2⟩
  rw [HPK.out.1, HPK.out.2]
  have H2 : Hid (Below W.heap.size W w_h2) := Lib.hid (bOn H1.out (bOn (by go_grown) h2))
  have HX : Hid (St w_h2 w_h1.heap.size 6 c false 0 3) := Lib.hid ((St.new w_h1 6 c false 0 3).below h2 (by simp))
  clear h2 HPK
  generalize word 6 c false 0 3 = wd at *
  obtain ⟨⟨x0, x1, x2, x3, x4⟩, -, hx⟩ := HX.out.all
  go_wp2_with fail
  refine (play_any wd HU1.out [(14, 0), (1, 0)] _ _ (HT.out.below (bOn H2.out (by go_grown))) (prs_new w_h2 _ [(14, 0), (1, 0)] (by unfold maxLen; simp) (by decide) _ rfl _ rfl _ rfl _)).mono ?_
  rintro e' w_h3 ⟨rfl, h3⟩
  rw [HP1.out]
  have H3 : Hid (Below W.heap.size W w_h3) := Lib.hid (bOn H2.out (bOn (by go_grown) h3))
  clear h3 HP1 x0 x1 x2 x3 x4 hx
  generalize word 0 0 false 0 3 = wv at *
  go_wp2_with fail
  refine (play_any wv HU2.out again _ _ (HT.out.below (bOn H3.out (by go_grown))) (prs_new w_h3 _ again (by unfold maxLen; decide) (by decide) _ rfl _ rfl _ rfl _)).mono ?_
  rintro e' w_h4 ⟨rfl, h4⟩
  rw [HP2.out]
  have H4 : Hid (Below W.heap.size W w_h4) := Lib.hid (bOn H3.out (bOn (by go_grown) h4))
  clear h4 HP2
  generalize word 7 1 false 1 4 = wu at *
  go_wp2_with fail
  refine (kind_any wv HU2.out _ (HT.out.below H4.out)).mono ?_
  rintro e' w_h5 ⟨rfl, h5⟩
  rw [HKV.out.1]
  have H5 := Lib.hid (bOn H4.out h5)
  clear h5
  go_wp2_with fail
  refine (gen_any wv HU2.out _ (HT.out.below H5.out)).mono ?_
  rintro e' w_h6 ⟨rfl, h6⟩
  rw [HKV.out.2]
  have H6 := Lib.hid (bOn H5.out h6)
  clear h6
  go_wp2_with fail
  refine (kind_any wu HU3.out _ (HT.out.below H6.out)).mono ?_
  rintro e' w_h7 ⟨rfl, h7⟩
  rw [HL.out.1]
  have H7 := Lib.hid (bOn H6.out h7)
  clear h7
  go_wp2_with fail
  refine (gen_any wu HU3.out _ (HT.out.below H7.out)).mono ?_
  rintro e' w_h8 ⟨rfl, h8⟩
  rw [HL.out.2]
  have H8 := Lib.hid (bOn H7.out h8)
  clear h8
  go_wp2
  go_ret
  exact ⟨rfl, H8.out⟩

set_option maxRecDepth 100000 in
set_option maxHeartbeats 4000000 in
theorem way_kdfalse (kind cpu : Int) (hk : 0 ≤ kind ∧ kind ≤ 255) (hcb : 0 ≤ cpu ∧ cpu ≤ 255) (r : Int) (hr : kind % 8 = r) (hd : r = 1 ∨ r = 3 ∨ r = 4 ∨ r = 5) (W : World) (hT : Tab W) :
    Calls Tryd.prog 8 #[.int .u8 kind, .bool false, .int .u8 cpu] W fun e w' => e = .returned (.bool true) ∧ Below W.heap.size W w' := by
  have HT := Lib.hid hT
  obtain ⟨c, hcc⟩ : ∃ c, cpu % 64 = c := ⟨_, rfl⟩
  have hc : 0 ≤ c ∧ c ≤ 63 := by omega
  have t1 : kind.tmod 8 = r := by rw [Int.tmod_eq_emod_of_nonneg hk.1]; exact hr
  have t2 : cpu.tmod 64 = c := by rw [Int.tmod_eq_emod_of_nonneg hcb.1]; exact hcc
  have e2 : (r == 2) = false := by simp; omega
  have e6 : (r == 6) = false := by simp; omega
  have e7 : (r == 7) = false := by simp; omega
  have e0 : (r == 0) = false := by simp; omega
  have hm := mayC r c false (by omega) (by simp) hc
  have HPK := Lib.hid (pk_yes hm)
  have HP1 := Lib.hid (exit_pl r c false hd rfl hc)
  have HP2 := Lib.hid (again_pl 0 (by omega))
  have HKV := Lib.hid (ends 0 (by omega))
  have HL := Lib.hid last
  have HU1 := Lib.hid (isW_U (word_isW hm))
  have HU2 := Lib.hid (isW_U (word_isW (mayC 0 0 false (by decide) (by simp) (by omega))))
  have HU3 : Hid (U (word 7 1 false 1 4)) := Lib.hid (by unfold U; decide)
  clear hT hm hd
  have k0 : 0 ≤ kind := hk.1
  have k1 : kind ≤ 255 := hk.2
  have u0 : 0 ≤ cpu := hcb.1
  have u1 : cpu ≤ 255 := hcb.2
  clear hk hcb
  go_enter Tryd.func8, Tryd.ntmps8
  go_wp2_with fail
  refine (awake_any _ HT.out).mono ?_
  rintro e' w_h1 ⟨rfl, h1⟩
  have H1 := Lib.hid h1
  clear h1
  go_wp2_with fail
  refine (pack_any r c false 0 3 _ (HT.out.below (bOn H1.out (by go_grown)))).mono ?_
  rintro e' w_h2 ⟨rfl, h2⟩
  rw [HPK.out.1, HPK.out.2]
  have H2 : Hid (Below W.heap.size W w_h2) := Lib.hid (bOn H1.out (bOn (by go_grown) h2))
  have HX : Hid (St w_h2 w_h1.heap.size r c false 0 3) := Lib.hid ((St.new w_h1 r c false 0 3).below h2 (by simp))
  clear h2 HPK
  generalize word r c false 0 3 = wd at *
  obtain ⟨⟨x0, x1, x2, x3, x4⟩, -, hx⟩ := HX.out.all
  go_wp2_with fail
  refine (play_any wd HU1.out [(1, 0)] _ _ (HT.out.below (bOn H2.out (by go_grown))) (prs_new w_h2 _ [(1, 0)] (by unfold maxLen; simp) (by decide) _ rfl _ rfl _ rfl _)).mono ?_
  rintro e' w_h3 ⟨rfl, h3⟩
  rw [HP1.out]
  have H3 : Hid (Below W.heap.size W w_h3) := Lib.hid (bOn H2.out (bOn (by go_grown) h3))
  clear h3 HP1 x0 x1 x2 x3 x4 hx
  generalize word 0 0 false 0 3 = wv at *
  go_wp2_with fail
  refine (play_any wv HU2.out again _ _ (HT.out.below (bOn H3.out (by go_grown))) (prs_new w_h3 _ again (by unfold maxLen; decide) (by decide) _ rfl _ rfl _ rfl _)).mono ?_
  rintro e' w_h4 ⟨rfl, h4⟩
  rw [HP2.out]
  have H4 : Hid (Below W.heap.size W w_h4) := Lib.hid (bOn H3.out (bOn (by go_grown) h4))
  clear h4 HP2
  generalize word 7 1 false 1 4 = wu at *
  go_wp2_with fail
  refine (kind_any wv HU2.out _ (HT.out.below H4.out)).mono ?_
  rintro e' w_h5 ⟨rfl, h5⟩
  rw [HKV.out.1]
  have H5 := Lib.hid (bOn H4.out h5)
  clear h5
  go_wp2_with fail
  refine (gen_any wv HU2.out _ (HT.out.below H5.out)).mono ?_
  rintro e' w_h6 ⟨rfl, h6⟩
  rw [HKV.out.2]
  have H6 := Lib.hid (bOn H5.out h6)
  clear h6
  go_wp2_with fail
  refine (kind_any wu HU3.out _ (HT.out.below H6.out)).mono ?_
  rintro e' w_h7 ⟨rfl, h7⟩
  rw [HL.out.1]
  have H7 := Lib.hid (bOn H6.out h7)
  clear h7
  go_wp2_with fail
  refine (gen_any wu HU3.out _ (HT.out.below H7.out)).mono ?_
  rintro e' w_h8 ⟨rfl, h8⟩
  rw [HL.out.2]
  have H8 := Lib.hid (bOn H7.out h8)
  clear h8
  go_wp2
  go_ret
  exact ⟨rfl, H8.out⟩

set_option maxRecDepth 100000 in
set_option maxHeartbeats 4000000 in
theorem way_k0true (kind cpu : Int) (hk : 0 ≤ kind ∧ kind ≤ 255) (hcb : 0 ≤ cpu ∧ cpu ≤ 255) (hr : kind % 8 = 0) (W : World) (hT : Tab W) :
    Calls Tryd.prog 8 #[.int .u8 kind, .bool true, .int .u8 cpu] W fun e w' => e = .returned (.bool true) ∧ Below W.heap.size W w' := by
  have HT := Lib.hid hT
  obtain ⟨c, hcc⟩ : ∃ c, cpu % 64 = c := ⟨_, rfl⟩
  have hc : 0 ≤ c ∧ c ≤ 63 := by omega
  have t1 : kind.tmod 8 = 0 := by rw [Int.tmod_eq_emod_of_nonneg hk.1]; exact hr
  have t2 : cpu.tmod 64 = c := by rw [Int.tmod_eq_emod_of_nonneg hcb.1]; exact hcc
  have hm := mayC 0 c false (by omega) (by simp) hc
  have HPK := Lib.hid (pk_yes hm)
  have HP2 := Lib.hid (again_pl c (by omega))
  have HKV := Lib.hid (ends c (by omega))
  have HL := Lib.hid last
  have HU1 := Lib.hid (isW_U (word_isW hm))
  have HU2 := Lib.hid (isW_U (word_isW (mayC 0 c false (by decide) (by simp) (by omega))))
  have HU3 : Hid (U (word 7 1 false 1 4)) := Lib.hid (by unfold U; decide)
  clear hT hm
  have k0 : 0 ≤ kind := hk.1
  have k1 : kind ≤ 255 := hk.2
  have u0 : 0 ≤ cpu := hcb.1
  have u1 : cpu ≤ 255 := hcb.2
  clear hk hcb
  go_enter Tryd.func8, Tryd.ntmps8
  go_wp2_with fail
  refine (awake_any _ HT.out).mono ?_
  rintro e' w_h1 ⟨rfl, h1⟩
  have H1 := Lib.hid h1
  clear h1
  go_wp2_with fail
  refine (pack_any 0 c false 0 3 _ (HT.out.below (bOn H1.out (by go_grown)))).mono ?_
  rintro e' w_h2 ⟨rfl, h2⟩
  rw [HPK.out.1, HPK.out.2]
  have H2 : Hid (Below W.heap.size W w_h2) := Lib.hid (bOn H1.out (bOn (by go_grown) h2))
  have HX : Hid (St w_h2 w_h1.heap.size 0 c false 0 3) := Lib.hid ((St.new w_h1 0 c false 0 3).below h2 (by simp))
  clear h2 HPK
  generalize word 0 c false 0 3 = wd at *
  obtain ⟨⟨x0, x1, x2, x3, x4⟩, -, hx⟩ := HX.out.all
  go_wp2_with fail
  refine (play_any wd HU1.out [] _ _ (HT.out.below (bOn H2.out (by go_grown))) (prs_none _)).mono ?_
  rintro e' w_h3 ⟨rfl, h3⟩
  rw [show pl wd [] = (wd, 0) from rfl]
  have H3 : Hid (Below W.heap.size W w_h3) := Lib.hid (bOn H2.out (bOn (by go_grown) h3))
  clear h3 x0 x1 x2 x3 x4 hx
  go_wp2_with fail
  refine (play_any wd HU2.out again _ _ (HT.out.below (bOn H3.out (by go_grown))) (prs_new w_h3 _ again (by unfold maxLen; decide) (by decide) _ rfl _ rfl _ rfl _)).mono ?_
  rintro e' w_h4 ⟨rfl, h4⟩
  rw [HP2.out]
  have H4 : Hid (Below W.heap.size W w_h4) := Lib.hid (bOn H3.out (bOn (by go_grown) h4))
  clear h4 HP2
  generalize word 7 1 false 1 4 = wu at *
  go_wp2_with fail
  refine (kind_any wd HU2.out _ (HT.out.below H4.out)).mono ?_
  rintro e' w_h5 ⟨rfl, h5⟩
  rw [HKV.out.1]
  have H5 := Lib.hid (bOn H4.out h5)
  clear h5
  go_wp2_with fail
  refine (gen_any wd HU2.out _ (HT.out.below H5.out)).mono ?_
  rintro e' w_h6 ⟨rfl, h6⟩
  rw [HKV.out.2]
  have H6 := Lib.hid (bOn H5.out h6)
  clear h6
  go_wp2_with fail
  refine (kind_any wu HU3.out _ (HT.out.below H6.out)).mono ?_
  rintro e' w_h7 ⟨rfl, h7⟩
  rw [HL.out.1]
  have H7 := Lib.hid (bOn H6.out h7)
  clear h7
  go_wp2_with fail
  refine (gen_any wu HU3.out _ (HT.out.below H7.out)).mono ?_
  rintro e' w_h8 ⟨rfl, h8⟩
  rw [HL.out.2]
  have H8 := Lib.hid (bOn H7.out h8)
  clear h8
  go_wp2
  go_ret
  exact ⟨rfl, H8.out⟩

set_option maxRecDepth 100000 in
set_option maxHeartbeats 4000000 in
theorem way_k2true (kind cpu : Int) (hk : 0 ≤ kind ∧ kind ≤ 255) (hcb : 0 ≤ cpu ∧ cpu ≤ 255) (hr : kind % 8 = 2) (W : World) (hT : Tab W) :
    Calls Tryd.prog 8 #[.int .u8 kind, .bool true, .int .u8 cpu] W fun e w' => e = .returned (.bool true) ∧ Below W.heap.size W w' := by
  have HT := Lib.hid hT
  obtain ⟨c, hcc⟩ : ∃ c, cpu % 64 = c := ⟨_, rfl⟩
  have hc : 0 ≤ c ∧ c ≤ 63 := by omega
  have t1 : kind.tmod 8 = 2 := by rw [Int.tmod_eq_emod_of_nonneg hk.1]; exact hr
  have t2 : cpu.tmod 64 = c := by rw [Int.tmod_eq_emod_of_nonneg hcb.1]; exact hcc
  have hm := mayC 2 c false (by omega) (by simp) hc
  have HPK := Lib.hid (pk_yes hm)
  have HP1 := Lib.hid (two_pl 2 c false 3 3 (by decide) hc)
  have HP2 := Lib.hid (again_pl 0 (by omega))
  have HKV := Lib.hid (ends 0 (by omega))
  have HL := Lib.hid last
  have HU1 := Lib.hid (isW_U (word_isW hm))
  have HU2 := Lib.hid (isW_U (word_isW (mayC 0 0 false (by decide) (by simp) (by omega))))
  have HU3 : Hid (U (word 7 1 false 1 4)) := Lib.hid (by unfold U; decide)
  clear hT hm
  have k0 : 0 ≤ kind := hk.1
  have k1 : kind ≤ 255 := hk.2
  have u0 : 0 ≤ cpu := hcb.1
  have u1 : cpu ≤ 255 := hcb.2
  clear hk hcb
  go_enter Tryd.func8, Tryd.ntmps8
  go_wp2_with fail
  refine (awake_any _ HT.out).mono ?_
  rintro e' w_h1 ⟨rfl, h1⟩
  have H1 := Lib.hid h1
  clear h1
  go_wp2_with fail
  refine (pack_any 2 c false 0 3 _ (HT.out.below (bOn H1.out (by go_grown)))).mono ?_
  rintro e' w_h2 ⟨rfl, h2⟩
  rw [HPK.out.1, HPK.out.2]
  have H2 : Hid (Below W.heap.size W w_h2) := Lib.hid (bOn H1.out (bOn (by go_grown) h2))
  have HX : Hid (St w_h2 w_h1.heap.size 2 c false 0 3) := Lib.hid ((St.new w_h1 2 c false 0 3).below h2 (by simp))
  clear h2 HPK
  generalize word 2 c false 0 3 = wd at *
  obtain ⟨⟨x0, x1, x2, x3, x4⟩, -, hx⟩ := HX.out.all
  go_wp2_with fail
  refine (play_any wd HU1.out [(3, 0), (1, 0)] _ _ (HT.out.below (bOn H2.out (by go_grown))) (prs_new w_h2 _ [(3, 0), (1, 0)] (by unfold maxLen; simp) (by decide) _ rfl _ rfl _ rfl _)).mono ?_
  rintro e' w_h3 ⟨rfl, h3⟩
  rw [HP1.out]
  have H3 : Hid (Below W.heap.size W w_h3) := Lib.hid (bOn H2.out (bOn (by go_grown) h3))
  clear h3 HP1 x0 x1 x2 x3 x4 hx
  generalize word 0 0 false 0 3 = wv at *
  go_wp2_with fail
  refine (play_any wv HU2.out again _ _ (HT.out.below (bOn H3.out (by go_grown))) (prs_new w_h3 _ again (by unfold maxLen; decide) (by decide) _ rfl _ rfl _ rfl _)).mono ?_
  rintro e' w_h4 ⟨rfl, h4⟩
  rw [HP2.out]
  have H4 : Hid (Below W.heap.size W w_h4) := Lib.hid (bOn H3.out (bOn (by go_grown) h4))
  clear h4 HP2
  generalize word 7 1 false 1 4 = wu at *
  go_wp2_with fail
  refine (kind_any wv HU2.out _ (HT.out.below H4.out)).mono ?_
  rintro e' w_h5 ⟨rfl, h5⟩
  rw [HKV.out.1]
  have H5 := Lib.hid (bOn H4.out h5)
  clear h5
  go_wp2_with fail
  refine (gen_any wv HU2.out _ (HT.out.below H5.out)).mono ?_
  rintro e' w_h6 ⟨rfl, h6⟩
  rw [HKV.out.2]
  have H6 := Lib.hid (bOn H5.out h6)
  clear h6
  go_wp2_with fail
  refine (kind_any wu HU3.out _ (HT.out.below H6.out)).mono ?_
  rintro e' w_h7 ⟨rfl, h7⟩
  rw [HL.out.1]
  have H7 := Lib.hid (bOn H6.out h7)
  clear h7
  go_wp2_with fail
  refine (gen_any wu HU3.out _ (HT.out.below H7.out)).mono ?_
  rintro e' w_h8 ⟨rfl, h8⟩
  rw [HL.out.2]
  have H8 := Lib.hid (bOn H7.out h8)
  clear h8
  go_wp2
  go_ret
  exact ⟨rfl, H8.out⟩

set_option maxRecDepth 100000 in
set_option maxHeartbeats 4000000 in
theorem way_k6true (kind cpu : Int) (hk : 0 ≤ kind ∧ kind ≤ 255) (hcb : 0 ≤ cpu ∧ cpu ≤ 255) (hr : kind % 8 = 6) (W : World) (hT : Tab W) :
    Calls Tryd.prog 8 #[.int .u8 kind, .bool true, .int .u8 cpu] W fun e w' => e = .returned (.bool true) ∧ Below W.heap.size W w' := by
  have HT := Lib.hid hT
  obtain ⟨c, hcc⟩ : ∃ c, cpu % 64 = c := ⟨_, rfl⟩
  have hc : 0 ≤ c ∧ c ≤ 63 := by omega
  have t1 : kind.tmod 8 = 6 := by rw [Int.tmod_eq_emod_of_nonneg hk.1]; exact hr
  have t2 : cpu.tmod 64 = c := by rw [Int.tmod_eq_emod_of_nonneg hcb.1]; exact hcc
  have hm := mayC 6 c false (by omega) (by simp) hc
  have HPK := Lib.hid (pk_yes hm)
  have HP1 := Lib.hid (two_pl 6 c false 14 4 (by decide) hc)
  have HP2 := Lib.hid (again_pl 0 (by omega))
  have HKV := Lib.hid (ends 0 (by omega))
  have HL := Lib.hid last
  have HU1 := Lib.hid (isW_U (word_isW hm))
  have HU2 := Lib.hid (isW_U (word_isW (mayC 0 0 false (by decide) (by simp) (by omega))))
  have HU3 : Hid (U (word 7 1 false 1 4)) := Lib.hid (by unfold U; decide)
  clear hT hm
  have k0 : 0 ≤ kind := hk.1
  have k1 : kind ≤ 255 := hk.2
  have u0 : 0 ≤ cpu := hcb.1
  have u1 : cpu ≤ 255 := hcb.2
  clear hk hcb
  go_enter Tryd.func8, Tryd.ntmps8
  go_wp2_with fail
  refine (awake_any _ HT.out).mono ?_
  rintro e' w_h1 ⟨rfl, h1⟩
  have H1 := Lib.hid h1
  clear h1
  go_wp2_with fail
  refine (pack_any 6 c false 0 3 _ (HT.out.below (bOn H1.out (by go_grown)))).mono ?_
  rintro e' w_h2 ⟨rfl, h2⟩
  rw [HPK.out.1, HPK.out.2]
  have H2 : Hid (Below W.heap.size W w_h2) := Lib.hid (bOn H1.out (bOn (by go_grown) h2))
  have HX : Hid (St w_h2 w_h1.heap.size 6 c false 0 3) := Lib.hid ((St.new w_h1 6 c false 0 3).below h2 (by simp))
  clear h2 HPK
  generalize word 6 c false 0 3 = wd at *
  obtain ⟨⟨x0, x1, x2, x3, x4⟩, -, hx⟩ := HX.out.all
  go_wp2_with fail
  refine (play_any wd HU1.out [(14, 0), (1, 0)] _ _ (HT.out.below (bOn H2.out (by go_grown))) (prs_new w_h2 _ [(14, 0), (1, 0)] (by unfold maxLen; simp) (by decide) _ rfl _ rfl _ rfl _)).mono ?_
  rintro e' w_h3 ⟨rfl, h3⟩
  rw [HP1.out]
  have H3 : Hid (Below W.heap.size W w_h3) := Lib.hid (bOn H2.out (bOn (by go_grown) h3))
  clear h3 HP1 x0 x1 x2 x3 x4 hx
  generalize word 0 0 false 0 3 = wv at *
  go_wp2_with fail
  refine (play_any wv HU2.out again _ _ (HT.out.below (bOn H3.out (by go_grown))) (prs_new w_h3 _ again (by unfold maxLen; decide) (by decide) _ rfl _ rfl _ rfl _)).mono ?_
  rintro e' w_h4 ⟨rfl, h4⟩
  rw [HP2.out]
  have H4 : Hid (Below W.heap.size W w_h4) := Lib.hid (bOn H3.out (bOn (by go_grown) h4))
  clear h4 HP2
  generalize word 7 1 false 1 4 = wu at *
  go_wp2_with fail
  refine (kind_any wv HU2.out _ (HT.out.below H4.out)).mono ?_
  rintro e' w_h5 ⟨rfl, h5⟩
  rw [HKV.out.1]
  have H5 := Lib.hid (bOn H4.out h5)
  clear h5
  go_wp2_with fail
  refine (gen_any wv HU2.out _ (HT.out.below H5.out)).mono ?_
  rintro e' w_h6 ⟨rfl, h6⟩
  rw [HKV.out.2]
  have H6 := Lib.hid (bOn H5.out h6)
  clear h6
  go_wp2_with fail
  refine (kind_any wu HU3.out _ (HT.out.below H6.out)).mono ?_
  rintro e' w_h7 ⟨rfl, h7⟩
  rw [HL.out.1]
  have H7 := Lib.hid (bOn H6.out h7)
  clear h7
  go_wp2_with fail
  refine (gen_any wu HU3.out _ (HT.out.below H7.out)).mono ?_
  rintro e' w_h8 ⟨rfl, h8⟩
  rw [HL.out.2]
  have H8 := Lib.hid (bOn H7.out h8)
  clear h8
  go_wp2
  go_ret
  exact ⟨rfl, H8.out⟩

set_option maxRecDepth 100000 in
set_option maxHeartbeats 4000000 in
theorem way_kdtrue (kind cpu : Int) (hk : 0 ≤ kind ∧ kind ≤ 255) (hcb : 0 ≤ cpu ∧ cpu ≤ 255) (r : Int) (hr : kind % 8 = r) (hd : r = 1 ∨ r = 3 ∨ r = 4 ∨ r = 5) (W : World) (hT : Tab W) :
    Calls Tryd.prog 8 #[.int .u8 kind, .bool true, .int .u8 cpu] W fun e w' => e = .returned (.bool true) ∧ Below W.heap.size W w' := by
  have HT := Lib.hid hT
  obtain ⟨c, hcc⟩ : ∃ c, cpu % 64 = c := ⟨_, rfl⟩
  have hc : 0 ≤ c ∧ c ≤ 63 := by omega
  have t1 : kind.tmod 8 = r := by rw [Int.tmod_eq_emod_of_nonneg hk.1]; exact hr
  have t2 : cpu.tmod 64 = c := by rw [Int.tmod_eq_emod_of_nonneg hcb.1]; exact hcc
  have e2 : (r == 2) = false := by simp; omega
  have e6 : (r == 6) = false := by simp; omega
  have e7 : (r == 7) = false := by simp; omega
  have e0 : (r == 0) = false := by simp; omega
  have hm := mayC r c false (by omega) (by simp) hc
  have HPK := Lib.hid (pk_yes hm)
  have HP1 := Lib.hid (exit_pl r c false hd rfl hc)
  have HP2 := Lib.hid (again_pl 0 (by omega))
  have HKV := Lib.hid (ends 0 (by omega))
  have HL := Lib.hid last
  have HU1 := Lib.hid (isW_U (word_isW hm))
  have HU2 := Lib.hid (isW_U (word_isW (mayC 0 0 false (by decide) (by simp) (by omega))))
  have HU3 : Hid (U (word 7 1 false 1 4)) := Lib.hid (by unfold U; decide)
  clear hT hm hd
  have k0 : 0 ≤ kind := hk.1
  have k1 : kind ≤ 255 := hk.2
  have u0 : 0 ≤ cpu := hcb.1
  have u1 : cpu ≤ 255 := hcb.2
  clear hk hcb
  go_enter Tryd.func8, Tryd.ntmps8
  go_wp2_with fail
  refine (awake_any _ HT.out).mono ?_
  rintro e' w_h1 ⟨rfl, h1⟩
  have H1 := Lib.hid h1
  clear h1
  go_wp2_with fail
  refine (pack_any r c false 0 3 _ (HT.out.below (bOn H1.out (by go_grown)))).mono ?_
  rintro e' w_h2 ⟨rfl, h2⟩
  rw [HPK.out.1, HPK.out.2]
  have H2 : Hid (Below W.heap.size W w_h2) := Lib.hid (bOn H1.out (bOn (by go_grown) h2))
  have HX : Hid (St w_h2 w_h1.heap.size r c false 0 3) := Lib.hid ((St.new w_h1 r c false 0 3).below h2 (by simp))
  clear h2 HPK
  generalize word r c false 0 3 = wd at *
  obtain ⟨⟨x0, x1, x2, x3, x4⟩, -, hx⟩ := HX.out.all
  go_wp2_with fail
  refine (play_any wd HU1.out [(1, 0)] _ _ (HT.out.below (bOn H2.out (by go_grown))) (prs_new w_h2 _ [(1, 0)] (by unfold maxLen; simp) (by decide) _ rfl _ rfl _ rfl _)).mono ?_
  rintro e' w_h3 ⟨rfl, h3⟩
  rw [HP1.out]
  have H3 : Hid (Below W.heap.size W w_h3) := Lib.hid (bOn H2.out (bOn (by go_grown) h3))
  clear h3 HP1 x0 x1 x2 x3 x4 hx
  generalize word 0 0 false 0 3 = wv at *
  go_wp2_with fail
  refine (play_any wv HU2.out again _ _ (HT.out.below (bOn H3.out (by go_grown))) (prs_new w_h3 _ again (by unfold maxLen; decide) (by decide) _ rfl _ rfl _ rfl _)).mono ?_
  rintro e' w_h4 ⟨rfl, h4⟩
  rw [HP2.out]
  have H4 : Hid (Below W.heap.size W w_h4) := Lib.hid (bOn H3.out (bOn (by go_grown) h4))
  clear h4 HP2
  generalize word 7 1 false 1 4 = wu at *
  go_wp2_with fail
  refine (kind_any wv HU2.out _ (HT.out.below H4.out)).mono ?_
  rintro e' w_h5 ⟨rfl, h5⟩
  rw [HKV.out.1]
  have H5 := Lib.hid (bOn H4.out h5)
  clear h5
  go_wp2_with fail
  refine (gen_any wv HU2.out _ (HT.out.below H5.out)).mono ?_
  rintro e' w_h6 ⟨rfl, h6⟩
  rw [HKV.out.2]
  have H6 := Lib.hid (bOn H5.out h6)
  clear h6
  go_wp2_with fail
  refine (kind_any wu HU3.out _ (HT.out.below H6.out)).mono ?_
  rintro e' w_h7 ⟨rfl, h7⟩
  rw [HL.out.1]
  have H7 := Lib.hid (bOn H6.out h7)
  clear h7
  go_wp2_with fail
  refine (gen_any wu HU3.out _ (HT.out.below H7.out)).mono ?_
  rintro e' w_h8 ⟨rfl, h8⟩
  rw [HL.out.2]
  have H8 := Lib.hid (bOn H7.out h8)
  clear h8
  go_wp2
  go_ret
  exact ⟨rfl, H8.out⟩

set_option maxRecDepth 100000 in
set_option maxHeartbeats 4000000 in
theorem way_k7false (kind cpu : Int) (hk : 0 ≤ kind ∧ kind ≤ 255) (hcb : 0 ≤ cpu ∧ cpu ≤ 255) (hr : kind % 8 = 7) (W : World) (hT : Tab W) :
    Calls Tryd.prog 8 #[.int .u8 kind, .bool false, .int .u8 cpu] W fun e w' => e = .returned (.bool true) ∧ Below W.heap.size W w' := by
  have HT := Lib.hid hT
  obtain ⟨c, hcc⟩ : ∃ c, cpu % 64 = c := ⟨_, rfl⟩
  have hc : 0 ≤ c ∧ c ≤ 63 := by omega
  have t1 : kind.tmod 8 = 7 := by rw [Int.tmod_eq_emod_of_nonneg hk.1]; exact hr
  have t2 : cpu.tmod 64 = c := by rw [Int.tmod_eq_emod_of_nonneg hcb.1]; exact hcc
  have hm := mayC 7 c false (by omega) (by simp) hc
  have HPK := Lib.hid (pk_yes hm)
  have HP1 := Lib.hid (two_pl 7 c false 9 1 (by decide) hc)
  have HP2 := Lib.hid (again_pl 0 (by omega))
  have HKV := Lib.hid (ends 0 (by omega))
  have HL := Lib.hid last
  have HU1 := Lib.hid (isW_U (word_isW hm))
  have HU2 := Lib.hid (isW_U (word_isW (mayC 0 0 false (by decide) (by simp) (by omega))))
  have HU3 : Hid (U (word 7 1 false 1 4)) := Lib.hid (by unfold U; decide)
  clear hT hm
  have k0 : 0 ≤ kind := hk.1
  have k1 : kind ≤ 255 := hk.2
  have u0 : 0 ≤ cpu := hcb.1
  have u1 : cpu ≤ 255 := hcb.2
  clear hk hcb
  go_enter Tryd.func8, Tryd.ntmps8
  go_wp2_with fail
  refine (awake_any _ HT.out).mono ?_
  rintro e' w_h1 ⟨rfl, h1⟩
  have H1 := Lib.hid h1
  clear h1
  go_wp2_with fail
  refine (pack_any 7 c false 0 3 _ (HT.out.below (bOn H1.out (by go_grown)))).mono ?_
  rintro e' w_h2 ⟨rfl, h2⟩
  rw [HPK.out.1, HPK.out.2]
  have H2 : Hid (Below W.heap.size W w_h2) := Lib.hid (bOn H1.out (bOn (by go_grown) h2))
  have HX : Hid (St w_h2 w_h1.heap.size 7 c false 0 3) := Lib.hid ((St.new w_h1 7 c false 0 3).below h2 (by simp))
  clear h2 HPK
  generalize word 7 c false 0 3 = wd at *
  obtain ⟨⟨x0, x1, x2, x3, x4⟩, -, hx⟩ := HX.out.all
  go_wp2_with fail
  refine (play_any wd HU1.out [(9, 0), (1, 0)] _ _ (HT.out.below (bOn H2.out (by go_grown))) (prs_new w_h2 _ [(9, 0), (1, 0)] (by unfold maxLen; simp) (by decide) _ rfl _ rfl _ rfl _)).mono ?_
  rintro e' w_h3 ⟨rfl, h3⟩
  rw [HP1.out]
  have H3 : Hid (Below W.heap.size W w_h3) := Lib.hid (bOn H2.out (bOn (by go_grown) h3))
  clear h3 HP1 x0 x1 x2 x3 x4 hx
  generalize word 0 0 false 0 3 = wv at *
  go_wp2_with fail
  refine (play_any wv HU2.out again _ _ (HT.out.below (bOn H3.out (by go_grown))) (prs_new w_h3 _ again (by unfold maxLen; decide) (by decide) _ rfl _ rfl _ rfl _)).mono ?_
  rintro e' w_h4 ⟨rfl, h4⟩
  rw [HP2.out]
  have H4 : Hid (Below W.heap.size W w_h4) := Lib.hid (bOn H3.out (bOn (by go_grown) h4))
  clear h4 HP2
  generalize word 7 1 false 1 4 = wu at *
  go_wp2_with fail
  refine (kind_any wv HU2.out _ (HT.out.below H4.out)).mono ?_
  rintro e' w_h5 ⟨rfl, h5⟩
  rw [HKV.out.1]
  have H5 := Lib.hid (bOn H4.out h5)
  clear h5
  go_wp2_with fail
  refine (gen_any wv HU2.out _ (HT.out.below H5.out)).mono ?_
  rintro e' w_h6 ⟨rfl, h6⟩
  rw [HKV.out.2]
  have H6 := Lib.hid (bOn H5.out h6)
  clear h6
  go_wp2_with fail
  refine (kind_any wu HU3.out _ (HT.out.below H6.out)).mono ?_
  rintro e' w_h7 ⟨rfl, h7⟩
  rw [HL.out.1]
  have H7 := Lib.hid (bOn H6.out h7)
  clear h7
  go_wp2_with fail
  refine (gen_any wu HU3.out _ (HT.out.below H7.out)).mono ?_
  rintro e' w_h8 ⟨rfl, h8⟩
  rw [HL.out.2]
  have H8 := Lib.hid (bOn H7.out h8)
  clear h8
  go_wp2
  go_ret
  exact ⟨rfl, H8.out⟩

set_option maxRecDepth 100000 in
set_option maxHeartbeats 4000000 in
theorem way_k7true (kind cpu : Int) (hk : 0 ≤ kind ∧ kind ≤ 255) (hcb : 0 ≤ cpu ∧ cpu ≤ 255) (hr : kind % 8 = 7) (W : World) (hT : Tab W) :
    Calls Tryd.prog 8 #[.int .u8 kind, .bool true, .int .u8 cpu] W fun e w' => e = .returned (.bool true) ∧ Below W.heap.size W w' := by
  have HT := Lib.hid hT
  obtain ⟨c, hcc⟩ : ∃ c, cpu % 64 = c := ⟨_, rfl⟩
  have hc : 0 ≤ c ∧ c ≤ 63 := by omega
  have t1 : kind.tmod 8 = 7 := by rw [Int.tmod_eq_emod_of_nonneg hk.1]; exact hr
  have t2 : cpu.tmod 64 = c := by rw [Int.tmod_eq_emod_of_nonneg hcb.1]; exact hcc
  have hm := mayC 7 c true (by omega) (by simp) hc
  have HPK := Lib.hid (pk_yes hm)
  have HP1 := Lib.hid (two_pl 7 c true 10 3 (by decide) hc)
  have HP2 := Lib.hid (again_pl 0 (by omega))
  have HKV := Lib.hid (ends 0 (by omega))
  have HL := Lib.hid last
  have HU1 := Lib.hid (isW_U (word_isW hm))
  have HU2 := Lib.hid (isW_U (word_isW (mayC 0 0 false (by decide) (by simp) (by omega))))
  have HU3 : Hid (U (word 7 1 false 1 4)) := Lib.hid (by unfold U; decide)
  clear hT hm
  have k0 : 0 ≤ kind := hk.1
  have k1 : kind ≤ 255 := hk.2
  have u0 : 0 ≤ cpu := hcb.1
  have u1 : cpu ≤ 255 := hcb.2
  clear hk hcb
  go_enter Tryd.func8, Tryd.ntmps8
  go_wp2_with fail
  refine (awake_any _ HT.out).mono ?_
  rintro e' w_h1 ⟨rfl, h1⟩
  have H1 := Lib.hid h1
  clear h1
  go_wp2_with fail
  refine (pack_any 7 c true 0 3 _ (HT.out.below (bOn H1.out (by go_grown)))).mono ?_
  rintro e' w_h2 ⟨rfl, h2⟩
  rw [HPK.out.1, HPK.out.2]
  have H2 : Hid (Below W.heap.size W w_h2) := Lib.hid (bOn H1.out (bOn (by go_grown) h2))
  have HX : Hid (St w_h2 w_h1.heap.size 7 c true 0 3) := Lib.hid ((St.new w_h1 7 c true 0 3).below h2 (by simp))
  clear h2 HPK
  generalize word 7 c true 0 3 = wd at *
  obtain ⟨⟨x0, x1, x2, x3, x4⟩, -, hx⟩ := HX.out.all
  go_wp2_with fail
  refine (play_any wd HU1.out [(10, 0), (1, 0)] _ _ (HT.out.below (bOn H2.out (by go_grown))) (prs_new (w_h2.alloc (.cells #[.int .i64 9, .int .i64 0, .int .i64 1, .int .i64 0] 40)) _ [(10, 0), (1, 0)] (by unfold maxLen; simp) (by decide) _ rfl _ rfl _ (by simp) _)).mono ?_
  rintro e' w_h3 ⟨rfl, h3⟩
  rw [HP1.out]
  have H3 : Hid (Below W.heap.size W w_h3) := Lib.hid (bOn H2.out (bOn (by go_grown) h3))
  clear h3 HP1 x0 x1 x2 x3 x4 hx
  generalize word 0 0 false 0 3 = wv at *
  go_wp2_with fail
  refine (play_any wv HU2.out again _ _ (HT.out.below (bOn H3.out (by go_grown))) (prs_new w_h3 _ again (by unfold maxLen; decide) (by decide) _ rfl _ rfl _ rfl _)).mono ?_
  rintro e' w_h4 ⟨rfl, h4⟩
  rw [HP2.out]
  have H4 : Hid (Below W.heap.size W w_h4) := Lib.hid (bOn H3.out (bOn (by go_grown) h4))
  clear h4 HP2
  generalize word 7 1 false 1 4 = wu at *
  go_wp2_with fail
  refine (kind_any wv HU2.out _ (HT.out.below H4.out)).mono ?_
  rintro e' w_h5 ⟨rfl, h5⟩
  rw [HKV.out.1]
  have H5 := Lib.hid (bOn H4.out h5)
  clear h5
  go_wp2_with fail
  refine (gen_any wv HU2.out _ (HT.out.below H5.out)).mono ?_
  rintro e' w_h6 ⟨rfl, h6⟩
  rw [HKV.out.2]
  have H6 := Lib.hid (bOn H5.out h6)
  clear h6
  go_wp2_with fail
  refine (kind_any wu HU3.out _ (HT.out.below H6.out)).mono ?_
  rintro e' w_h7 ⟨rfl, h7⟩
  rw [HL.out.1]
  have H7 := Lib.hid (bOn H6.out h7)
  clear h7
  go_wp2_with fail
  refine (gen_any wu HU3.out _ (HT.out.below H7.out)).mono ?_
  rintro e' w_h8 ⟨rfl, h8⟩
  rw [HL.out.2]
  have H8 := Lib.hid (bOn H7.out h8)
  clear h8
  go_wp2
  go_ret
  exact ⟨rfl, H8.out⟩

theorem walk (kind : Int) (bit : Bool) (cpu : Int) (hk : (Lit.int .u8 kind).wf = true) (hc : (Lit.int .u8 cpu).wf = true) (W : World) (hT : Tab W) :
    Calls Tryd.prog 8 #[.int .u8 kind, .bool bit, .int .u8 cpu] W fun e w' => e = .returned (.bool true) ∧ Below W.heap.size W w' := by
  have k := bounds_u8 hk
  have c := bounds_u8 hc
  have k' : 0 ≤ kind ∧ kind ≤ 255 := by omega
  have c' : 0 ≤ cpu ∧ cpu ≤ 255 := by omega
  rcases (show kind % 8 = 0 ∨ kind % 8 = 2 ∨ kind % 8 = 6 ∨ kind % 8 = 7 ∨ (kind % 8 = 1 ∨ kind % 8 = 3 ∨ kind % 8 = 4 ∨ kind % 8 = 5) by omega) with h | h | h | h | h
  · cases bit
    · exact way_k0false kind cpu k' c' h W hT
    · exact way_k0true kind cpu k' c' h W hT
  · cases bit
    · exact way_k2false kind cpu k' c' h W hT
    · exact way_k2true kind cpu k' c' h W hT
  · cases bit
    · exact way_k6false kind cpu k' c' h W hT
    · exact way_k6true kind cpu k' c' h W hT
  · cases bit
    · exact way_k7false kind cpu k' c' h W hT
    · exact way_k7true kind cpu k' c' h W hT
  · cases bit
    · exact way_kdfalse kind cpu k' c' _ rfl h W hT
    · exact way_kdtrue kind cpu k' c' _ rfl h W hT

theorem met (os : Os) : laidMet Tryd.prog Rows.lifeWaysRow.laid ((laidWorld os).forCall (fun _ _ => 0) ⟨#[], #[.int .u8 0, .bool false, .int .u8 0], []⟩).memory := laidMet_of_run' 8 (by kernel_rfl) (by kernel_rfl)
theorem reads (os : Os) {H : Type} (enc : TypeId × Value → H) : ∃ ps, DataW.whole enc Tryd.prog ((laidWorld os).forCall (fun _ _ => 0) ⟨#[], #[.int .u8 0, .bool false, .int .u8 0], []⟩).memory Tryd.f8.params.toList Rows.lifeWaysSpec.vars false #[Value.int .u8 0, Value.bool false, Value.int .u8 0].toList 8 = some ([.lit (.int .u8 0), .lit (.bool false), .lit (.int .u8 0)], [], ps) := ⟨[], by kernel_rfl⟩
set_option maxRecDepth 100000 in
theorem lifted (os : Os) (started : os.Started) (H : Type) (enc : TypeId × Value → H) (F : Stop.Interp) :
    ReturnsInHanded {} Tryd.checked os 8 .any ((OpenSpec.ofChange Rows.lifeWaysSpec).preRow enc Tryd.prog Tryd.f8 Rows.lifeWaysRow.domain false Rows.lifeWaysRow.laid) (((OpenSpec.ofChange Rows.lifeWaysSpec).at F).post enc Tryd.prog Tryd.f8 false true false false) := by
  obtain ⟨ps, hx⟩ := reads os enc
  refine returnsInHanded_of_row (C := Tryd.checked) (s := OpenSpec.ofChange Rows.lifeWaysSpec) own started (by kernel_rfl) Tryd.func8 (witness_row_at (enc := enc) (C := Tryd.checked) false (laidWorld os) #[.int .u8 0, .bool false, .int .u8 0] rfl (by kernel_rfl) (by kernel_rfl) (by kernel_rfl) (OpenSpec.preRow_of_cond 8 hx (by kernel_rfl) (fun k hk => by cases hk) (by kernel_rfl) (met os))) ?_
  intro W base args ds gs before hval0 hW _ _ _ hL _ _
  have hval : ∀ (j : Nat) t v, Tryd.f8.params[j]? = some t → args[j]? = some v → Value.okWide Tryd.prog W .any base t v := hval0
  have hW' := hW
  obtain ⟨p, q, hA0, hV, rfl, -, -⟩ := hW
  have hA : DataW.TrodAll enc Tryd.prog W 0 (fun _ => true) true Tryd.f8.params.toList args.toList ds p := hA0
  rw [Tryd.params8] at hA hval
  obtain ⟨v0, vs0, d0, ds0, p0, q0, hargs, rfl, rfl, h0, r0⟩ := trodAll_cons hA
  obtain ⟨v1, vs1, d1, ds1, p1, q1, rfl, rfl, rfl, h1, r1⟩ := trodAll_cons r0
  obtain ⟨v2, vs2, d2, ds2, p2, q2, rfl, rfl, rfl, h2, r2⟩ := trodAll_cons r1
  obtain ⟨rfl, rfl, rfl⟩ := trodAll_nil r2
  obtain rfl : args = #[v0, v1, v2] := by cases args; simp_all
  obtain ⟨rfl, rfl⟩ := trodVars_none hV
  obtain ⟨a0, rfl, rfl, rfl, w0⟩ := open_int Tryd.underlying5 (hval 0 5 v0 rfl rfl) h0
  obtain ⟨a1, rfl, rfl, rfl⟩ := open_bool Tryd.underlying4 (hval 1 4 v1 rfl rfl) h1
  obtain ⟨a2, rfl, rfl, rfl, w2⟩ := open_int Tryd.underlying5 (hval 2 5 v2 rfl rfl) h2
  clear hA0 hval0
  refine (walk a0 a1 a2 w0 w2 W (tab_laid hL)).mono fun e W' ⟨he, hb⟩ => ?_
  subst he
  exact ⟨_, rfl, post_law laidOut (by kernel_rfl) rfl (by kernel_rfl) Tryd.underlying4 hW' rfl hb⟩

theorem row : Rows.LifeWaysSaid :=
  OpenClaim.holds_of_cond 8 Tryd.f8 rfl rfl rfl rfl rfl rfl rfl ⟨rfl, rfl, rfl, rfl, rfl⟩ rfl rfl rfl rfl rfl (by kernel_rfl) Tryd.func8 (by kernel_rfl)
    (of_decide_eq_true (by kernel_rfl)) (by unfold Func.isWrapper; first | (rw [if_pos (by decide +kernel)]; kernel_rfl) | (rw [if_neg (by decide +kernel)]; exact ⟨rfl, rfl⟩))
    (fun os started H enc _ F => by rw [OpenClaim.pre_eq_preRow]; exact lifted os started H enc F)
theorem simple (f : FuncId) (fn : Func) (hf : Tryd.pinned.checked.prog.funcNamed Rows.lifeWaysRow.func = some f) (hfn : Tryd.pinned.checked.prog.funcs[f]? = some fn) :
    false = Tryd.pinned.checked.prog.looks [] ∧ ∀ (j : Nat) t, fn.params[j]? = some t → Tryd.pinned.checked.prog.wantsStandIn t = false := by
  have e1 : Tryd.prog.funcNamed Rows.lifeWaysRow.func = some 8 := by kernel_rfl
  cases e1.symm.trans hf
  cases Tryd.func8.symm.trans hfn
  exact ⟨by kernel_rfl, no_stand (P := Tryd.prog) (by kernel_rfl)⟩
/-- **LifeWays**: the given statement, a tied card. -/
theorem proved : Rows.LifeWaysCardSaid :=
  Claim7.holds_tied_plain_at .later [] _ _ _ _ row (fun _ h => by cases h) (by kernel_rfl) (fun _ h => by cases h) lifeWays_row_tie rfl ⟨rfl, rfl⟩ (by kernel_rfl) rfl simple (by kernel_rfl)

end Go.Proofs.YtijbnojcehjcaaaDoor.lifeWays
