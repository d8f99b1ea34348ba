/-
  Contracts of turnspitref07's Next where the event is done, and so of Next, May, Settled, Awake and Play.
-/
import Derived.Test.YtjikabalpejmlaaDoorLfR
namespace Go.Proofs.YtjikabalpejmlaaDoor
open Go.RowKit Go.Joins Go.Maps Pk Lf

theorem ch_rest (i : Nat) (h0 : i ≠ 0) (h1 : i ≠ 1) (h2 : i ≠ 2) (h3 : i ≠ 11) (h4 : i ≠ 12) (h5 : i ≠ 13) (h6 : i ≠ 15) (c cpu s g : Int) : chC i c cpu = c ∧ chS i s = s ∧ chG i g = g := by
  refine ⟨?_, ?_, ?_⟩
  · unfold chC; split <;> first | rfl | omega
  · unfold chS; split <;> first | rfl | omega
  · unfold chG; split <;> first | rfl | omega

set_option maxHeartbeats 4000000 in
theorem rnext_take (w : Int) (i : Nat) (hi : i < 16) (hj : i = 0) (cpu : Int) (hw : U w) (h : isW w) (hc : 0 ≤ cpu ∧ cpu ≤ 63) (ho : ofB i (K w) (B w) = true) (hg : i = 0 → G w ≠ 4294967295) (W : World) :
    Calls Tryd.prog 48 #[.int .u64 w, .int .i64 (i : Int), .int .i64 cpu] W fun e w' => e = .returned (.tuple #[.int .u64 (word (toK i) (chC i (C w) cpu) (chB i) (chS i (S w)) (chG i (G w))), .int .i64 0]) ∧ Below W.heap.size W w' := by
  have HU := Lib.hid hw
  have HE := Lib.hid (un_yes h)
  have HF := Lib.hid ho
  have HM : Hid (may (toK i) (chC i (C w) cpu) (chB i) (chS i (S w)) (chG i (G w))) := Lib.hid (by
    obtain ⟨-, pc, ps, pg, -⟩ := parts_may h
    exact ⟨toK_le _, chC_le _ pc hc, chS_le _ ps, chG_le _ pg hg, chB_toK _⟩)
  obtain ⟨-, -, ⟨s0, s1⟩, ⟨g0, g1⟩, -⟩ := parts_may h
  have HG := Lib.hid hg
  have h8 := note_is i
  have HC : Hid (chC i (C w) cpu = cpu ∧ chS i (S w) = 0 ∧ chG i (G w) = (G w + 1)) := Lib.hid (by subst hj; exact ⟨rfl, rfl, rfl⟩)
  have f0 : ((i : Int) == 0) = true := by simp; omega
  have HG0 := Lib.hid (hg hj)
  obtain ⟨X, hX⟩ : ∃ X, word (toK i) (chC i (C w) cpu) (chB i) (chS i (S w)) (chG i (G w)) = X := ⟨_, rfl⟩
  rw [hX]
  have HXX := Lib.hid hX
  clear hX
  obtain ⟨c0, c1⟩ := hc
  clear hw h ho hg hj
  go_enter Tryd.func48, Tryd.ntmps48
  go_wp2_with fail
  refine (runpack_any w HU.out _).mono ?_
  rintro e' w_h1 ⟨rfl, h1⟩
  rw [HE.out.1, HE.out.2.1, HE.out.2.2.1, HE.out.2.2.2.1, HE.out.2.2.2.2.1, HE.out.2.2.2.2.2]
  have H1 := Lib.hid h1
  clear h1 HE
  generalize K w = k at *
  generalize C w = c at *
  generalize B w = bb at *
  generalize S w = s at *
  generalize G w = g at *
  rw [HC.out.1, HC.out.2.1, HC.out.2.2] at HM HXX
  clear HC
  go_wp2_with fail
  refine (rof_any i hi k c bb s g _).mono ?_
  rintro e' w_h2 ⟨rfl, h2⟩
  rw [HF.out]
  have H2 : Hid (Below W.heap.size W w_h2) := Lib.hid (bOn H1.out (bOn (by go_grown) h2))
  have HX2 : Hid (St w_h2 w_h1.heap.size k c bb s g) := Lib.hid ((St.new w_h1 k c bb s g).below h2 (by simp))
  have HB : Hid (W.heap.size ≤ w_h1.heap.size) := Lib.hid H1.out.size
  clear h2 H1 HF
  obtain ⟨⟨p0, p1, p2, p3, p4⟩, -, hp⟩ := HX2.out.all
  have hg : (g == 4294967295) = false := by simpa using HG0.out
  go_wp2_with fail
  refine (rcomes_any i hi _).mono ?_
  rintro e' w_h3 ⟨rfl, h3⟩
  have H3 := Lib.hid (bOn H2.out h3)
  have HX : Hid (St w_h3 w_h1.heap.size k c bb s g) := Lib.hid (HX2.out.below h3 HX2.out.lt)
  clear h3 HX2 H2 p0 p1 p2 p3 p4 hp
  obtain ⟨⟨q0, q1, q2, q3, q4⟩, ⟨z0, z1, z2, z3, z4⟩, hq⟩ := HX.out.all
  have hlt : W.heap.size ≤ w_h1.heap.size := HB.out
  generalize chB i = nb at *
  generalize toK i = tk at *
  go_wp2_with fail
  refine (rpack_any tk cpu nb 0 (g + 1) _).mono ?_
  rintro e' w_h4 ⟨rfl, h4⟩
  rw [(pk_yes HM.out).1, (pk_yes HM.out).2]
  have H4 : Hid (Below W.heap.size W w_h4) := Lib.hid (bOn (w := W) (by have hB := H3.out; go_grown) h4)
  clear h4
  go_wp2
  go_ret2
  exact ⟨by rw [← HXX.out]; rfl, H4.out⟩

set_option maxHeartbeats 4000000 in
theorem rnext_exit (w : Int) (i : Nat) (hi : i < 16) (hj : i = 1) (cpu : Int) (hw : U w) (h : isW w) (hc : 0 ≤ cpu ∧ cpu ≤ 63) (ho : ofB i (K w) (B w) = true) (hg : i = 0 → G w ≠ 4294967295) (W : World) :
    Calls Tryd.prog 48 #[.int .u64 w, .int .i64 (i : Int), .int .i64 cpu] W fun e w' => e = .returned (.tuple #[.int .u64 (word (toK i) (chC i (C w) cpu) (chB i) (chS i (S w)) (chG i (G w))), .int .i64 0]) ∧ Below W.heap.size W w' := by
  have HU := Lib.hid hw
  have HE := Lib.hid (un_yes h)
  have HF := Lib.hid ho
  have HM : Hid (may (toK i) (chC i (C w) cpu) (chB i) (chS i (S w)) (chG i (G w))) := Lib.hid (by
    obtain ⟨-, pc, ps, pg, -⟩ := parts_may h
    exact ⟨toK_le _, chC_le _ pc hc, chS_le _ ps, chG_le _ pg hg, chB_toK _⟩)
  obtain ⟨-, -, ⟨s0, s1⟩, ⟨g0, g1⟩, -⟩ := parts_may h
  have HG := Lib.hid hg
  have h8 := note_is i
  have HC : Hid (chC i (C w) cpu = 0 ∧ chS i (S w) = 0 ∧ chG i (G w) = G w) := Lib.hid (by subst hj; exact ⟨rfl, rfl, rfl⟩)
  have f0 : ((i : Int) == 0) = false := by simp; omega
  have f1 : ((i : Int) == 1) = true := by simp; omega
  obtain ⟨X, hX⟩ : ∃ X, word (toK i) (chC i (C w) cpu) (chB i) (chS i (S w)) (chG i (G w)) = X := ⟨_, rfl⟩
  rw [hX]
  have HXX := Lib.hid hX
  clear hX
  obtain ⟨c0, c1⟩ := hc
  clear hw h ho hg hj
  go_enter Tryd.func48, Tryd.ntmps48
  go_wp2_with fail
  refine (runpack_any w HU.out _).mono ?_
  rintro e' w_h1 ⟨rfl, h1⟩
  rw [HE.out.1, HE.out.2.1, HE.out.2.2.1, HE.out.2.2.2.1, HE.out.2.2.2.2.1, HE.out.2.2.2.2.2]
  have H1 := Lib.hid h1
  clear h1 HE
  generalize K w = k at *
  generalize C w = c at *
  generalize B w = bb at *
  generalize S w = s at *
  generalize G w = g at *
  rw [HC.out.1, HC.out.2.1, HC.out.2.2] at HM HXX
  clear HC
  go_wp2_with fail
  refine (rof_any i hi k c bb s g _).mono ?_
  rintro e' w_h2 ⟨rfl, h2⟩
  rw [HF.out]
  have H2 : Hid (Below W.heap.size W w_h2) := Lib.hid (bOn H1.out (bOn (by go_grown) h2))
  have HX2 : Hid (St w_h2 w_h1.heap.size k c bb s g) := Lib.hid ((St.new w_h1 k c bb s g).below h2 (by simp))
  have HB : Hid (W.heap.size ≤ w_h1.heap.size) := Lib.hid H1.out.size
  clear h2 H1 HF
  go_wp2_with fail
  refine (rcomes_any i hi _).mono ?_
  rintro e' w_h3 ⟨rfl, h3⟩
  have H3 := Lib.hid (bOn H2.out h3)
  have HX : Hid (St w_h3 w_h1.heap.size k c bb s g) := Lib.hid (HX2.out.below h3 HX2.out.lt)
  clear h3 HX2 H2
  obtain ⟨⟨q0, q1, q2, q3, q4⟩, ⟨z0, z1, z2, z3, z4⟩, hq⟩ := HX.out.all
  have hlt : W.heap.size ≤ w_h1.heap.size := HB.out
  generalize chB i = nb at *
  generalize toK i = tk at *
  go_wp2_with fail
  refine (rpack_any tk 0 nb 0 g _).mono ?_
  rintro e' w_h4 ⟨rfl, h4⟩
  rw [(pk_yes HM.out).1, (pk_yes HM.out).2]
  have H4 : Hid (Below W.heap.size W w_h4) := Lib.hid (bOn (w := W) (by have hB := H3.out; go_grown) h4)
  clear h4
  go_wp2
  go_ret2
  exact ⟨by rw [← HXX.out]; rfl, H4.out⟩

set_option maxHeartbeats 4000000 in
theorem rnext_claim (w : Int) (i : Nat) (hi : i < 16) (hj : i = 2) (cpu : Int) (hw : U w) (h : isW w) (hc : 0 ≤ cpu ∧ cpu ≤ 63) (ho : ofB i (K w) (B w) = true) (hg : i = 0 → G w ≠ 4294967295) (W : World) :
    Calls Tryd.prog 48 #[.int .u64 w, .int .i64 (i : Int), .int .i64 cpu] W fun e w' => e = .returned (.tuple #[.int .u64 (word (toK i) (chC i (C w) cpu) (chB i) (chS i (S w)) (chG i (G w))), .int .i64 0]) ∧ Below W.heap.size W w' := by
  have HU := Lib.hid hw
  have HE := Lib.hid (un_yes h)
  have HF := Lib.hid ho
  have HM : Hid (may (toK i) (chC i (C w) cpu) (chB i) (chS i (S w)) (chG i (G w))) := Lib.hid (by
    obtain ⟨-, pc, ps, pg, -⟩ := parts_may h
    exact ⟨toK_le _, chC_le _ pc hc, chS_le _ ps, chG_le _ pg hg, chB_toK _⟩)
  obtain ⟨-, -, ⟨s0, s1⟩, ⟨g0, g1⟩, -⟩ := parts_may h
  have HG := Lib.hid hg
  have h8 := note_is i
  have HC : Hid (chC i (C w) cpu = C w ∧ chS i (S w) = ((S w + 1) % 65536) ∧ chG i (G w) = G w) := Lib.hid (by subst hj; exact ⟨rfl, rfl, rfl⟩)
  have f0 : ((i : Int) == 0) = false := by simp; omega
  have f1 : ((i : Int) == 1) = false := by simp; omega
  have f2 : ((i : Int) == 2) = true := by simp; omega
  obtain ⟨X, hX⟩ : ∃ X, word (toK i) (chC i (C w) cpu) (chB i) (chS i (S w)) (chG i (G w)) = X := ⟨_, rfl⟩
  rw [hX]
  have HXX := Lib.hid hX
  clear hX
  obtain ⟨c0, c1⟩ := hc
  clear hw h ho hg hj
  go_enter Tryd.func48, Tryd.ntmps48
  go_wp2_with fail
  refine (runpack_any w HU.out _).mono ?_
  rintro e' w_h1 ⟨rfl, h1⟩
  rw [HE.out.1, HE.out.2.1, HE.out.2.2.1, HE.out.2.2.2.1, HE.out.2.2.2.2.1, HE.out.2.2.2.2.2]
  have H1 := Lib.hid h1
  clear h1 HE
  generalize K w = k at *
  generalize C w = c at *
  generalize B w = bb at *
  generalize S w = s at *
  generalize G w = g at *
  rw [HC.out.1, HC.out.2.1, HC.out.2.2] at HM HXX
  clear HC
  go_wp2_with fail
  refine (rof_any i hi k c bb s g _).mono ?_
  rintro e' w_h2 ⟨rfl, h2⟩
  rw [HF.out]
  have H2 : Hid (Below W.heap.size W w_h2) := Lib.hid (bOn H1.out (bOn (by go_grown) h2))
  have HX2 : Hid (St w_h2 w_h1.heap.size k c bb s g) := Lib.hid ((St.new w_h1 k c bb s g).below h2 (by simp))
  have HB : Hid (W.heap.size ≤ w_h1.heap.size) := Lib.hid H1.out.size
  clear h2 H1 HF
  go_wp2_with fail
  refine (rcomes_any i hi _).mono ?_
  rintro e' w_h3 ⟨rfl, h3⟩
  have H3 := Lib.hid (bOn H2.out h3)
  have HX : Hid (St w_h3 w_h1.heap.size k c bb s g) := Lib.hid (HX2.out.below h3 HX2.out.lt)
  clear h3 HX2 H2
  obtain ⟨⟨q0, q1, q2, q3, q4⟩, ⟨z0, z1, z2, z3, z4⟩, hq⟩ := HX.out.all
  have hlt : W.heap.size ≤ w_h1.heap.size := HB.out
  generalize chB i = nb at *
  generalize toK i = tk at *
  go_wp2_with fail
  refine (rpack_any tk c nb ((s + 1) % 65536) g _).mono ?_
  rintro e' w_h4 ⟨rfl, h4⟩
  rw [(pk_yes HM.out).1, (pk_yes HM.out).2]
  have H4 : Hid (Below W.heap.size W w_h4) := Lib.hid (bOn (w := W) (by have hB := H3.out; go_grown) h4)
  clear h4
  go_wp2
  go_ret2
  exact ⟨by rw [← HXX.out]; rfl, H4.out⟩

set_option maxHeartbeats 4000000 in
theorem rnext_rest11 (w : Int) (i : Nat) (hi : i < 16) (hj : i = 11) (cpu : Int) (hw : U w) (h : isW w) (hc : 0 ≤ cpu ∧ cpu ≤ 63) (ho : ofB i (K w) (B w) = true) (hg : i = 0 → G w ≠ 4294967295) (W : World) :
    Calls Tryd.prog 48 #[.int .u64 w, .int .i64 (i : Int), .int .i64 cpu] W fun e w' => e = .returned (.tuple #[.int .u64 (word (toK i) (chC i (C w) cpu) (chB i) (chS i (S w)) (chG i (G w))), .int .i64 0]) ∧ Below W.heap.size W w' := by
  have HU := Lib.hid hw
  have HE := Lib.hid (un_yes h)
  have HF := Lib.hid ho
  have HM : Hid (may (toK i) (chC i (C w) cpu) (chB i) (chS i (S w)) (chG i (G w))) := Lib.hid (by
    obtain ⟨-, pc, ps, pg, -⟩ := parts_may h
    exact ⟨toK_le _, chC_le _ pc hc, chS_le _ ps, chG_le _ pg hg, chB_toK _⟩)
  obtain ⟨-, -, ⟨s0, s1⟩, ⟨g0, g1⟩, -⟩ := parts_may h
  have HG := Lib.hid hg
  have h8 := note_is i
  have HC : Hid (chC i (C w) cpu = cpu ∧ chS i (S w) = S w ∧ chG i (G w) = G w) := Lib.hid (by subst hj; exact ⟨rfl, rfl, rfl⟩)
  have f0 : ((i : Int) == 0) = false := by simp; omega
  have f1 : ((i : Int) == 1) = false := by simp; omega
  have f2 : ((i : Int) == 2) = false := by simp; omega
  have f11 : ((i : Int) == 11) = true := by simp; omega
  obtain ⟨X, hX⟩ : ∃ X, word (toK i) (chC i (C w) cpu) (chB i) (chS i (S w)) (chG i (G w)) = X := ⟨_, rfl⟩
  rw [hX]
  have HXX := Lib.hid hX
  clear hX
  obtain ⟨c0, c1⟩ := hc
  clear hw h ho hg hj
  go_enter Tryd.func48, Tryd.ntmps48
  go_wp2_with fail
  refine (runpack_any w HU.out _).mono ?_
  rintro e' w_h1 ⟨rfl, h1⟩
  rw [HE.out.1, HE.out.2.1, HE.out.2.2.1, HE.out.2.2.2.1, HE.out.2.2.2.2.1, HE.out.2.2.2.2.2]
  have H1 := Lib.hid h1
  clear h1 HE
  generalize K w = k at *
  generalize C w = c at *
  generalize B w = bb at *
  generalize S w = s at *
  generalize G w = g at *
  rw [HC.out.1, HC.out.2.1, HC.out.2.2] at HM HXX
  clear HC
  go_wp2_with fail
  refine (rof_any i hi k c bb s g _).mono ?_
  rintro e' w_h2 ⟨rfl, h2⟩
  rw [HF.out]
  have H2 : Hid (Below W.heap.size W w_h2) := Lib.hid (bOn H1.out (bOn (by go_grown) h2))
  have HX2 : Hid (St w_h2 w_h1.heap.size k c bb s g) := Lib.hid ((St.new w_h1 k c bb s g).below h2 (by simp))
  have HB : Hid (W.heap.size ≤ w_h1.heap.size) := Lib.hid H1.out.size
  clear h2 H1 HF
  go_wp2_with fail
  refine (rcomes_any i hi _).mono ?_
  rintro e' w_h3 ⟨rfl, h3⟩
  have H3 := Lib.hid (bOn H2.out h3)
  have HX : Hid (St w_h3 w_h1.heap.size k c bb s g) := Lib.hid (HX2.out.below h3 HX2.out.lt)
  clear h3 HX2 H2
  obtain ⟨⟨q0, q1, q2, q3, q4⟩, ⟨z0, z1, z2, z3, z4⟩, hq⟩ := HX.out.all
  have hlt : W.heap.size ≤ w_h1.heap.size := HB.out
  generalize chB i = nb at *
  generalize toK i = tk at *
  go_wp2_with fail
  refine (rpack_any tk cpu nb s g _).mono ?_
  rintro e' w_h4 ⟨rfl, h4⟩
  rw [(pk_yes HM.out).1, (pk_yes HM.out).2]
  have H4 : Hid (Below W.heap.size W w_h4) := Lib.hid (bOn (w := W) (by have hB := H3.out; go_grown) h4)
  clear h4
  go_wp2
  go_ret2
  exact ⟨by rw [← HXX.out]; rfl, H4.out⟩

set_option maxHeartbeats 4000000 in
theorem rnext_shift (w : Int) (i : Nat) (hi : i < 16) (hj : i = 12) (cpu : Int) (hw : U w) (h : isW w) (hc : 0 ≤ cpu ∧ cpu ≤ 63) (ho : ofB i (K w) (B w) = true) (hg : i = 0 → G w ≠ 4294967295) (W : World) :
    Calls Tryd.prog 48 #[.int .u64 w, .int .i64 (i : Int), .int .i64 cpu] W fun e w' => e = .returned (.tuple #[.int .u64 (word (toK i) (chC i (C w) cpu) (chB i) (chS i (S w)) (chG i (G w))), .int .i64 0]) ∧ Below W.heap.size W w' := by
  have HU := Lib.hid hw
  have HE := Lib.hid (un_yes h)
  have HF := Lib.hid ho
  have HM : Hid (may (toK i) (chC i (C w) cpu) (chB i) (chS i (S w)) (chG i (G w))) := Lib.hid (by
    obtain ⟨-, pc, ps, pg, -⟩ := parts_may h
    exact ⟨toK_le _, chC_le _ pc hc, chS_le _ ps, chG_le _ pg hg, chB_toK _⟩)
  obtain ⟨-, -, ⟨s0, s1⟩, ⟨g0, g1⟩, -⟩ := parts_may h
  have HG := Lib.hid hg
  have h8 := note_is i
  have HC : Hid (chC i (C w) cpu = cpu ∧ chS i (S w) = S w ∧ chG i (G w) = G w) := Lib.hid (by subst hj; exact ⟨rfl, rfl, rfl⟩)
  have f0 : ((i : Int) == 0) = false := by simp; omega
  have f1 : ((i : Int) == 1) = false := by simp; omega
  have f2 : ((i : Int) == 2) = false := by simp; omega
  have f11 : ((i : Int) == 11) = false := by simp; omega
  have f12 : ((i : Int) == 12) = true := by simp; omega
  obtain ⟨X, hX⟩ : ∃ X, word (toK i) (chC i (C w) cpu) (chB i) (chS i (S w)) (chG i (G w)) = X := ⟨_, rfl⟩
  rw [hX]
  have HXX := Lib.hid hX
  clear hX
  obtain ⟨c0, c1⟩ := hc
  clear hw h ho hg hj
  go_enter Tryd.func48, Tryd.ntmps48
  go_wp2_with fail
  refine (runpack_any w HU.out _).mono ?_
  rintro e' w_h1 ⟨rfl, h1⟩
  rw [HE.out.1, HE.out.2.1, HE.out.2.2.1, HE.out.2.2.2.1, HE.out.2.2.2.2.1, HE.out.2.2.2.2.2]
  have H1 := Lib.hid h1
  clear h1 HE
  generalize K w = k at *
  generalize C w = c at *
  generalize B w = bb at *
  generalize S w = s at *
  generalize G w = g at *
  rw [HC.out.1, HC.out.2.1, HC.out.2.2] at HM HXX
  clear HC
  go_wp2_with fail
  refine (rof_any i hi k c bb s g _).mono ?_
  rintro e' w_h2 ⟨rfl, h2⟩
  rw [HF.out]
  have H2 : Hid (Below W.heap.size W w_h2) := Lib.hid (bOn H1.out (bOn (by go_grown) h2))
  have HX2 : Hid (St w_h2 w_h1.heap.size k c bb s g) := Lib.hid ((St.new w_h1 k c bb s g).below h2 (by simp))
  have HB : Hid (W.heap.size ≤ w_h1.heap.size) := Lib.hid H1.out.size
  clear h2 H1 HF
  go_wp2_with fail
  refine (rcomes_any i hi _).mono ?_
  rintro e' w_h3 ⟨rfl, h3⟩
  have H3 := Lib.hid (bOn H2.out h3)
  have HX : Hid (St w_h3 w_h1.heap.size k c bb s g) := Lib.hid (HX2.out.below h3 HX2.out.lt)
  clear h3 HX2 H2
  obtain ⟨⟨q0, q1, q2, q3, q4⟩, ⟨z0, z1, z2, z3, z4⟩, hq⟩ := HX.out.all
  have hlt : W.heap.size ≤ w_h1.heap.size := HB.out
  generalize chB i = nb at *
  generalize toK i = tk at *
  go_wp2_with fail
  refine (rpack_any tk cpu nb s g _).mono ?_
  rintro e' w_h4 ⟨rfl, h4⟩
  rw [(pk_yes HM.out).1, (pk_yes HM.out).2]
  have H4 : Hid (Below W.heap.size W w_h4) := Lib.hid (bOn (w := W) (by have hB := H3.out; go_grown) h4)
  clear h4
  go_wp2
  go_ret2
  exact ⟨by rw [← HXX.out]; rfl, H4.out⟩

set_option maxHeartbeats 4000000 in
theorem rnext_taken (w : Int) (i : Nat) (hi : i < 16) (hj : i = 13) (cpu : Int) (hw : U w) (h : isW w) (hc : 0 ≤ cpu ∧ cpu ≤ 63) (ho : ofB i (K w) (B w) = true) (hg : i = 0 → G w ≠ 4294967295) (W : World) :
    Calls Tryd.prog 48 #[.int .u64 w, .int .i64 (i : Int), .int .i64 cpu] W fun e w' => e = .returned (.tuple #[.int .u64 (word (toK i) (chC i (C w) cpu) (chB i) (chS i (S w)) (chG i (G w))), .int .i64 0]) ∧ Below W.heap.size W w' := by
  have HU := Lib.hid hw
  have HE := Lib.hid (un_yes h)
  have HF := Lib.hid ho
  have HM : Hid (may (toK i) (chC i (C w) cpu) (chB i) (chS i (S w)) (chG i (G w))) := Lib.hid (by
    obtain ⟨-, pc, ps, pg, -⟩ := parts_may h
    exact ⟨toK_le _, chC_le _ pc hc, chS_le _ ps, chG_le _ pg hg, chB_toK _⟩)
  obtain ⟨-, -, ⟨s0, s1⟩, ⟨g0, g1⟩, -⟩ := parts_may h
  have HG := Lib.hid hg
  have h8 := note_is i
  have HC : Hid (chC i (C w) cpu = cpu ∧ chS i (S w) = S w ∧ chG i (G w) = G w) := Lib.hid (by subst hj; exact ⟨rfl, rfl, rfl⟩)
  have f0 : ((i : Int) == 0) = false := by simp; omega
  have f1 : ((i : Int) == 1) = false := by simp; omega
  have f2 : ((i : Int) == 2) = false := by simp; omega
  have f11 : ((i : Int) == 11) = false := by simp; omega
  have f12 : ((i : Int) == 12) = false := by simp; omega
  have f13 : ((i : Int) == 13) = true := by simp; omega
  obtain ⟨X, hX⟩ : ∃ X, word (toK i) (chC i (C w) cpu) (chB i) (chS i (S w)) (chG i (G w)) = X := ⟨_, rfl⟩
  rw [hX]
  have HXX := Lib.hid hX
  clear hX
  obtain ⟨c0, c1⟩ := hc
  clear hw h ho hg hj
  go_enter Tryd.func48, Tryd.ntmps48
  go_wp2_with fail
  refine (runpack_any w HU.out _).mono ?_
  rintro e' w_h1 ⟨rfl, h1⟩
  rw [HE.out.1, HE.out.2.1, HE.out.2.2.1, HE.out.2.2.2.1, HE.out.2.2.2.2.1, HE.out.2.2.2.2.2]
  have H1 := Lib.hid h1
  clear h1 HE
  generalize K w = k at *
  generalize C w = c at *
  generalize B w = bb at *
  generalize S w = s at *
  generalize G w = g at *
  rw [HC.out.1, HC.out.2.1, HC.out.2.2] at HM HXX
  clear HC
  go_wp2_with fail
  refine (rof_any i hi k c bb s g _).mono ?_
  rintro e' w_h2 ⟨rfl, h2⟩
  rw [HF.out]
  have H2 : Hid (Below W.heap.size W w_h2) := Lib.hid (bOn H1.out (bOn (by go_grown) h2))
  have HX2 : Hid (St w_h2 w_h1.heap.size k c bb s g) := Lib.hid ((St.new w_h1 k c bb s g).below h2 (by simp))
  have HB : Hid (W.heap.size ≤ w_h1.heap.size) := Lib.hid H1.out.size
  clear h2 H1 HF
  go_wp2_with fail
  refine (rcomes_any i hi _).mono ?_
  rintro e' w_h3 ⟨rfl, h3⟩
  have H3 := Lib.hid (bOn H2.out h3)
  have HX : Hid (St w_h3 w_h1.heap.size k c bb s g) := Lib.hid (HX2.out.below h3 HX2.out.lt)
  clear h3 HX2 H2
  obtain ⟨⟨q0, q1, q2, q3, q4⟩, ⟨z0, z1, z2, z3, z4⟩, hq⟩ := HX.out.all
  have hlt : W.heap.size ≤ w_h1.heap.size := HB.out
  generalize chB i = nb at *
  generalize toK i = tk at *
  go_wp2_with fail
  refine (rpack_any tk cpu nb s g _).mono ?_
  rintro e' w_h4 ⟨rfl, h4⟩
  rw [(pk_yes HM.out).1, (pk_yes HM.out).2]
  have H4 : Hid (Below W.heap.size W w_h4) := Lib.hid (bOn (w := W) (by have hB := H3.out; go_grown) h4)
  clear h4
  go_wp2
  go_ret2
  exact ⟨by rw [← HXX.out]; rfl, H4.out⟩

set_option maxHeartbeats 4000000 in
theorem rnext_move (w : Int) (i : Nat) (hi : i < 16) (hj : i = 15) (cpu : Int) (hw : U w) (h : isW w) (hc : 0 ≤ cpu ∧ cpu ≤ 63) (ho : ofB i (K w) (B w) = true) (hg : i = 0 → G w ≠ 4294967295) (W : World) :
    Calls Tryd.prog 48 #[.int .u64 w, .int .i64 (i : Int), .int .i64 cpu] W fun e w' => e = .returned (.tuple #[.int .u64 (word (toK i) (chC i (C w) cpu) (chB i) (chS i (S w)) (chG i (G w))), .int .i64 0]) ∧ Below W.heap.size W w' := by
  have HU := Lib.hid hw
  have HE := Lib.hid (un_yes h)
  have HF := Lib.hid ho
  have HM : Hid (may (toK i) (chC i (C w) cpu) (chB i) (chS i (S w)) (chG i (G w))) := Lib.hid (by
    obtain ⟨-, pc, ps, pg, -⟩ := parts_may h
    exact ⟨toK_le _, chC_le _ pc hc, chS_le _ ps, chG_le _ pg hg, chB_toK _⟩)
  obtain ⟨-, -, ⟨s0, s1⟩, ⟨g0, g1⟩, -⟩ := parts_may h
  have HG := Lib.hid hg
  have h8 := note_is i
  have HC : Hid (chC i (C w) cpu = cpu ∧ chS i (S w) = S w ∧ chG i (G w) = G w) := Lib.hid (by subst hj; exact ⟨rfl, rfl, rfl⟩)
  have f0 : ((i : Int) == 0) = false := by simp; omega
  have f1 : ((i : Int) == 1) = false := by simp; omega
  have f2 : ((i : Int) == 2) = false := by simp; omega
  have f11 : ((i : Int) == 11) = false := by simp; omega
  have f12 : ((i : Int) == 12) = false := by simp; omega
  have f13 : ((i : Int) == 13) = false := by simp; omega
  have f15 : ((i : Int) == 15) = true := by simp; omega
  obtain ⟨X, hX⟩ : ∃ X, word (toK i) (chC i (C w) cpu) (chB i) (chS i (S w)) (chG i (G w)) = X := ⟨_, rfl⟩
  rw [hX]
  have HXX := Lib.hid hX
  clear hX
  obtain ⟨c0, c1⟩ := hc
  clear hw h ho hg hj
  go_enter Tryd.func48, Tryd.ntmps48
  go_wp2_with fail
  refine (runpack_any w HU.out _).mono ?_
  rintro e' w_h1 ⟨rfl, h1⟩
  rw [HE.out.1, HE.out.2.1, HE.out.2.2.1, HE.out.2.2.2.1, HE.out.2.2.2.2.1, HE.out.2.2.2.2.2]
  have H1 := Lib.hid h1
  clear h1 HE
  generalize K w = k at *
  generalize C w = c at *
  generalize B w = bb at *
  generalize S w = s at *
  generalize G w = g at *
  rw [HC.out.1, HC.out.2.1, HC.out.2.2] at HM HXX
  clear HC
  go_wp2_with fail
  refine (rof_any i hi k c bb s g _).mono ?_
  rintro e' w_h2 ⟨rfl, h2⟩
  rw [HF.out]
  have H2 : Hid (Below W.heap.size W w_h2) := Lib.hid (bOn H1.out (bOn (by go_grown) h2))
  have HX2 : Hid (St w_h2 w_h1.heap.size k c bb s g) := Lib.hid ((St.new w_h1 k c bb s g).below h2 (by simp))
  have HB : Hid (W.heap.size ≤ w_h1.heap.size) := Lib.hid H1.out.size
  clear h2 H1 HF
  go_wp2_with fail
  refine (rcomes_any i hi _).mono ?_
  rintro e' w_h3 ⟨rfl, h3⟩
  have H3 := Lib.hid (bOn H2.out h3)
  have HX : Hid (St w_h3 w_h1.heap.size k c bb s g) := Lib.hid (HX2.out.below h3 HX2.out.lt)
  clear h3 HX2 H2
  obtain ⟨⟨q0, q1, q2, q3, q4⟩, ⟨z0, z1, z2, z3, z4⟩, hq⟩ := HX.out.all
  have hlt : W.heap.size ≤ w_h1.heap.size := HB.out
  generalize chB i = nb at *
  generalize toK i = tk at *
  go_wp2_with fail
  refine (rpack_any tk cpu nb s g _).mono ?_
  rintro e' w_h4 ⟨rfl, h4⟩
  rw [(pk_yes HM.out).1, (pk_yes HM.out).2]
  have H4 : Hid (Below W.heap.size W w_h4) := Lib.hid (bOn (w := W) (by have hB := H3.out; go_grown) h4)
  clear h4
  go_wp2
  go_ret2
  exact ⟨by rw [← HXX.out]; rfl, H4.out⟩

set_option maxHeartbeats 4000000 in
theorem rnext_other (w : Int) (i : Nat) (hi : i < 16) (hj : i ≠ 0 ∧ i ≠ 1 ∧ i ≠ 2 ∧ i ≠ 11 ∧ i ≠ 12 ∧ i ≠ 13 ∧ i ≠ 15) (cpu : Int) (hw : U w) (h : isW w) (hc : 0 ≤ cpu ∧ cpu ≤ 63) (ho : ofB i (K w) (B w) = true) (hg : i = 0 → G w ≠ 4294967295) (W : World) :
    Calls Tryd.prog 48 #[.int .u64 w, .int .i64 (i : Int), .int .i64 cpu] W fun e w' => e = .returned (.tuple #[.int .u64 (word (toK i) (chC i (C w) cpu) (chB i) (chS i (S w)) (chG i (G w))), .int .i64 0]) ∧ Below W.heap.size W w' := by
  have HU := Lib.hid hw
  have HE := Lib.hid (un_yes h)
  have HF := Lib.hid ho
  have HM : Hid (may (toK i) (chC i (C w) cpu) (chB i) (chS i (S w)) (chG i (G w))) := Lib.hid (by
    obtain ⟨-, pc, ps, pg, -⟩ := parts_may h
    exact ⟨toK_le _, chC_le _ pc hc, chS_le _ ps, chG_le _ pg hg, chB_toK _⟩)
  obtain ⟨-, -, ⟨s0, s1⟩, ⟨g0, g1⟩, -⟩ := parts_may h
  have HG := Lib.hid hg
  have h8 := note_is i
  have HC : Hid (chC i (C w) cpu = C w ∧ chS i (S w) = S w ∧ chG i (G w) = G w) := Lib.hid (by exact ch_rest i hj.1 hj.2.1 hj.2.2.1 hj.2.2.2.1 hj.2.2.2.2.1 hj.2.2.2.2.2.1 hj.2.2.2.2.2.2 _ _ _ _)
  have f0 : ((i : Int) == 0) = false := by simp; omega
  have f1 : ((i : Int) == 1) = false := by simp; omega
  have f2 : ((i : Int) == 2) = false := by simp; omega
  have f11 : ((i : Int) == 11) = false := by simp; omega
  have f12 : ((i : Int) == 12) = false := by simp; omega
  have f13 : ((i : Int) == 13) = false := by simp; omega
  have f15 : ((i : Int) == 15) = false := by simp; omega
  obtain ⟨X, hX⟩ : ∃ X, word (toK i) (chC i (C w) cpu) (chB i) (chS i (S w)) (chG i (G w)) = X := ⟨_, rfl⟩
  rw [hX]
  have HXX := Lib.hid hX
  clear hX
  obtain ⟨c0, c1⟩ := hc
  clear hw h ho hg hj
  go_enter Tryd.func48, Tryd.ntmps48
  go_wp2_with fail
  refine (runpack_any w HU.out _).mono ?_
  rintro e' w_h1 ⟨rfl, h1⟩
  rw [HE.out.1, HE.out.2.1, HE.out.2.2.1, HE.out.2.2.2.1, HE.out.2.2.2.2.1, HE.out.2.2.2.2.2]
  have H1 := Lib.hid h1
  clear h1 HE
  generalize K w = k at *
  generalize C w = c at *
  generalize B w = bb at *
  generalize S w = s at *
  generalize G w = g at *
  rw [HC.out.1, HC.out.2.1, HC.out.2.2] at HM HXX
  clear HC
  go_wp2_with fail
  refine (rof_any i hi k c bb s g _).mono ?_
  rintro e' w_h2 ⟨rfl, h2⟩
  rw [HF.out]
  have H2 : Hid (Below W.heap.size W w_h2) := Lib.hid (bOn H1.out (bOn (by go_grown) h2))
  have HX2 : Hid (St w_h2 w_h1.heap.size k c bb s g) := Lib.hid ((St.new w_h1 k c bb s g).below h2 (by simp))
  have HB : Hid (W.heap.size ≤ w_h1.heap.size) := Lib.hid H1.out.size
  clear h2 H1 HF
  go_wp2_with fail
  refine (rcomes_any i hi _).mono ?_
  rintro e' w_h3 ⟨rfl, h3⟩
  have H3 := Lib.hid (bOn H2.out h3)
  have HX : Hid (St w_h3 w_h1.heap.size k c bb s g) := Lib.hid (HX2.out.below h3 HX2.out.lt)
  clear h3 HX2 H2
  obtain ⟨⟨q0, q1, q2, q3, q4⟩, ⟨z0, z1, z2, z3, z4⟩, hq⟩ := HX.out.all
  have hlt : W.heap.size ≤ w_h1.heap.size := HB.out
  generalize chB i = nb at *
  generalize toK i = tk at *
  go_wp2_with fail
  refine (rpack_any tk c nb s g _).mono ?_
  rintro e' w_h4 ⟨rfl, h4⟩
  rw [(pk_yes HM.out).1, (pk_yes HM.out).2]
  have H4 : Hid (Below W.heap.size W w_h4) := Lib.hid (bOn (w := W) (by have hB := H3.out; go_grown) h4)
  clear h4
  go_wp2
  go_ret2
  exact ⟨by rw [← HXX.out]; rfl, H4.out⟩

/-- **Next** of the document's own answers, of every argument. -/
theorem rnext_any (w ev cpu : Int) (hw : U w) (W : World) :
    Calls Tryd.prog 48 #[.int .u64 w, .int .i64 ev, .int .i64 cpu] W fun e w' => e = .returned (.tuple #[.int .u64 (nxW w ev cpu), .int .i64 (nxE w ev cpu)]) ∧ Below W.heap.size W w' := by
  by_cases hA : okA w ev cpu
  · obtain ⟨h, he, hc⟩ := id hA
    cases ho : ofB ev.toNat (K w) (B w) with
    | false =>
      rw [(nx_order hA ho).1, (nx_order hA ho).2]
      obtain ⟨i, hi, rfl, hn⟩ := sixteen he
      rw [hn] at ho
      exact rnext_order w i hi cpu hw h hc ho W
    | true =>
      by_cases hf : ev = 0 ∧ G w = 4294967295
      · rw [(nx_full hA ho hf).1, (nx_full hA ho hf).2]
        obtain ⟨i, hi, rfl, hn⟩ := sixteen he
        rw [hn] at ho
        exact rnext_full w i (by omega) cpu hw h hc ho hf.2 W
      · rw [(nx_yes hA ho hf).1, (nx_yes hA ho hf).2]
        obtain ⟨i, hi, rfl, hn⟩ := sixteen he
        rw [hn] at ho ⊢
        have hg : i = 0 → G w ≠ 4294967295 := fun h0 hg => hf ⟨by omega, hg⟩
        by_cases j0 : i = 0
        · exact rnext_take w i hi j0 cpu hw h hc ho hg W
        by_cases j1 : i = 1
        · exact rnext_exit w i hi j1 cpu hw h hc ho hg W
        by_cases j2 : i = 2
        · exact rnext_claim w i hi j2 cpu hw h hc ho hg W
        by_cases j3 : i = 11
        · exact rnext_rest11 w i hi j3 cpu hw h hc ho hg W
        by_cases j4 : i = 12
        · exact rnext_shift w i hi j4 cpu hw h hc ho hg W
        by_cases j5 : i = 13
        · exact rnext_taken w i hi j5 cpu hw h hc ho hg W
        by_cases j6 : i = 15
        · exact rnext_move w i hi j6 cpu hw h hc ho hg W
        exact rnext_other w i hi ⟨j0, j1, j2, j3, j4, j5, j6⟩ cpu hw h hc ho hg W
  · rw [(nx_arg hA).1, (nx_arg hA).2]
    exact rnext_arg w ev cpu hw hA W

theorem rmay7_any (w ev : Int) (hw : U w) (W : World) :
    Calls Tryd.prog 25 #[.int .u64 w, .int .i64 ev] W fun e w' => e = .returned (.bool (mayN w ev)) ∧ Below W.heap.size W w' := by
  have HU := Lib.hid hw
  have hm : (nxE w ev 0 == 0) = mayN w ev := rfl
  clear hw
  go_enter Tryd.func25, Tryd.ntmps25
  go_wp2_with fail
  refine (rnext_any w ev 0 HU.out _).mono ?_
  rintro e' w_h2 ⟨rfl, h2⟩
  have H2 := Lib.hid h2
  clear h2
  generalize nxE w ev 0 = e at *
  go_wp2
  go_ret
  exact ⟨rfl, H2.out⟩

end Go.Proofs.YtjikabalpejmlaaDoor
