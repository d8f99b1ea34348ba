/-
  Contracts of life's step where the event is done, and so of step, of every argument; of Next and May.
-/
import Derived.Test.YtjikabalpejmlaaDoorLfC
namespace Go.Proofs.YtjikabalpejmlaaDoor
open Go.RowKit Go.Joins Go.Maps Pk Lf

set_option maxHeartbeats 4000000 in
/-- The event is done. -/
theorem step_yes_bls (b : Nat) (w : Int) (i : Nat) (hi : i < 16) (cpu : Int) (hw : U w) (h : isW w) (hQ : ofF i = 86) (hQ' : chF i = 80) (hN : i ≠ 0) (hc : 0 ≤ cpu ∧ cpu ≤ 63) (ho : ofB i (K w) (B w) = true) (hg : i = 0 → G w ≠ 4294967295) (W : World) (hT : Tab W) (hS : Sofar W b 16) :
    Calls Tryd.prog 68 #[.map (some b), .int .u64 w, .int .i64 (i : Int), .int .i64 cpu] W fun e w' => e = .returned (.tuple #[.int .u64 (word (toK i) (chC i (C w) cpu) (chB i) (chS i (S w)) (chG i (G w))), .int .i64 0]) ∧ Below W.heap.size W w' := by
  have HF := Lib.hid ho
  have HQ := Lib.hid hQ
  have HQ' := Lib.hid hQ'
  have HM : Hid (may (toK i) (chC i (C w) cpu) (chB i) (chS i (S w)) (chG i (G w))) := Lib.hid (by
    obtain ⟨-, pc, ps, pg, -⟩ := parts_may h
    exact ⟨toK_le _, chC_le _ pc hc, chS_le _ ps, chG_le _ pg hg, chB_toK _⟩)
  have HP := Lib.hid (parts_may h).2.2
  obtain ⟨X, hX⟩ : ∃ X, word (toK i) (chC i (C w) cpu) (chB i) (chS i (S w)) (chG i (G w)) = X := ⟨_, rfl⟩
  rw [hX]
  have HXX := Lib.hid hX
  clear hX
  have HG := Lib.hid hg
  have HN := Lib.hid hN
  have h8 := note_is i
  obtain ⟨c0, c1⟩ := hc
  clear ho hg hQ hQ' hN
  have HT := Lib.hid hT
  have HU := Lib.hid hw
  have HE := Lib.hid (un_yes h)
  have HS := Lib.hid hS
  clear hT hw h hS
  obtain ⟨tk, htk⟩ : ∃ tk, toK i = tk := ⟨_, rfl⟩
  have HK := Lib.hid htk
  clear htk
  go_enter Tryd.func68, Tryd.ntmps68
  go_wp2_with fail
  refine (unpack_any w HU.out _ HT.out).mono ?_
  rintro e' w_h1 ⟨rfl, h1⟩
  rw [HE.out.1, HE.out.2.1, HE.out.2.2.1, HE.out.2.2.2.1, HE.out.2.2.2.2.1, HE.out.2.2.2.2.2]
  have H1 := Lib.hid h1
  clear h1 HE
  generalize K w = k at *
  generalize C w = c at *
  generalize B w = bb at *
  generalize S w = s at *
  generalize G w = g at *
  have HS1 := Lib.hid ((HS.out.below H1.out).below (Below.alloc (Below.refl _ _) (Nat.le_refl _) (.cells #[.int .i64 k, .int .i64 c, .bool bb, .int .i64 s, .int .i64 g] 79)))
  go_wp2_with (first | (at_lookup; go_loud (refine wpList_look_yes rfl (.tmp 23) (.tmp 24) rfl b i hi 86 80 tk HQ.out HQ'.out HK.out rfl rfl HS1.out ?_); intro n hO; have HO := Lib.hid hO; clear hO) | fail)
  refine (asks_at i hi HQ.out k c bb s g n _ (HO.out.kept (kept_below (Below.alloc (Below.refl _ _) (Nat.le_refl _) _))) HF.out).mono ?_
  rintro e' w2 ⟨rfl, h2⟩
  have H2 : Hid (Below W.heap.size W w2) := Lib.hid (bOn H1.out (bOn (by go_grown) h2))
  have HX : Hid (St w2 w_h1.heap.size k c bb s g) := Lib.hid (((St.new w_h1 k c bb s g).below (Below.alloc (Below.refl _ _) (Nat.le_refl _) _) (by simp)).below h2 (by simp; omega))
  have HR : Hid (Ru w2 (w_h1.heap.size + 1) 86 n tk 80) := Lib.hid (by
    have := (Ru.new (w_h1.alloc (.cells #[.int .i64 k, .int .i64 c, .bool bb, .int .i64 s, .int .i64 g] 79)) 86 n tk 80).below h2 (by simp)
    rwa [World.size_alloc] at this)
  have HB : Hid (W.heap.size ≤ w_h1.heap.size) := Lib.hid H1.out.size
  clear h2 H1 HO HS1 HF
  obtain ⟨⟨q0, q1, q2, q3, q4⟩, ⟨z0, z1, z2, z3, z4⟩, hq⟩ := HX.out.all
  obtain ⟨r0, r1, r2, hr⟩ := HR.out.all
  have hlt : W.heap.size ≤ w_h1.heap.size := HB.out
  have hne : w_h1.heap.size + 1 ≠ w_h1.heap.size := by omega
  have hne' : w_h1.heap.size ≠ w_h1.heap.size + 1 := by omega
  rw [HK.out] at HM HXX
  generalize chB i = nb at *
  have hi1 : ((i : Int) == 0) = false := by have := HN.out; simp; omega
  go_wp2_with fail
  refine (changes_at i hi HQ'.out tk c nb s g cpu HP.out.1 HP.out.2.1 _).mono ?_
  rintro e' w3 ⟨rfl, h3⟩
  have H3 : Hid (Below W.heap.size W w3) := Lib.hid (bOn (w := W) (by have hB := H2.out; go_grown) h3)
  clear h3
  go_wp2_with fail
  refine (pack_any tk (chC i c cpu) nb (chS i s) (chG i g) _ (HT.out.below H3.out)).mono ?_
  rintro e' w_h4 ⟨rfl, h4⟩
  rw [(pk_yes HM.out).1, (pk_yes HM.out).2]
  have H4 := Lib.hid (bOn H3.out h4)
  clear h4
  go_wp2
  go_ret2
  exact ⟨by rw [← HXX.out]; rfl, H4.out⟩

set_option maxHeartbeats 4000000 in
/-- The event is done. -/
theorem step_yes_ofs (b : Nat) (w : Int) (i : Nat) (hi : i < 16) (cpu : Int) (hw : U w) (h : isW w) (hQ : ofF i = 84) (hQ' : chF i = 80) (hN : i ≠ 0) (hc : 0 ≤ cpu ∧ cpu ≤ 63) (ho : ofB i (K w) (B w) = true) (hg : i = 0 → G w ≠ 4294967295) (W : World) (hT : Tab W) (hS : Sofar W b 16) :
    Calls Tryd.prog 68 #[.map (some b), .int .u64 w, .int .i64 (i : Int), .int .i64 cpu] W fun e w' => e = .returned (.tuple #[.int .u64 (word (toK i) (chC i (C w) cpu) (chB i) (chS i (S w)) (chG i (G w))), .int .i64 0]) ∧ Below W.heap.size W w' := by
  have HF := Lib.hid ho
  have HQ := Lib.hid hQ
  have HQ' := Lib.hid hQ'
  have HM : Hid (may (toK i) (chC i (C w) cpu) (chB i) (chS i (S w)) (chG i (G w))) := Lib.hid (by
    obtain ⟨-, pc, ps, pg, -⟩ := parts_may h
    exact ⟨toK_le _, chC_le _ pc hc, chS_le _ ps, chG_le _ pg hg, chB_toK _⟩)
  have HP := Lib.hid (parts_may h).2.2
  obtain ⟨X, hX⟩ : ∃ X, word (toK i) (chC i (C w) cpu) (chB i) (chS i (S w)) (chG i (G w)) = X := ⟨_, rfl⟩
  rw [hX]
  have HXX := Lib.hid hX
  clear hX
  have HG := Lib.hid hg
  have HN := Lib.hid hN
  have h8 := note_is i
  obtain ⟨c0, c1⟩ := hc
  clear ho hg hQ hQ' hN
  have HT := Lib.hid hT
  have HU := Lib.hid hw
  have HE := Lib.hid (un_yes h)
  have HS := Lib.hid hS
  clear hT hw h hS
  obtain ⟨tk, htk⟩ : ∃ tk, toK i = tk := ⟨_, rfl⟩
  have HK := Lib.hid htk
  clear htk
  go_enter Tryd.func68, Tryd.ntmps68
  go_wp2_with fail
  refine (unpack_any w HU.out _ HT.out).mono ?_
  rintro e' w_h1 ⟨rfl, h1⟩
  rw [HE.out.1, HE.out.2.1, HE.out.2.2.1, HE.out.2.2.2.1, HE.out.2.2.2.2.1, HE.out.2.2.2.2.2]
  have H1 := Lib.hid h1
  clear h1 HE
  generalize K w = k at *
  generalize C w = c at *
  generalize B w = bb at *
  generalize S w = s at *
  generalize G w = g at *
  have HS1 := Lib.hid ((HS.out.below H1.out).below (Below.alloc (Below.refl _ _) (Nat.le_refl _) (.cells #[.int .i64 k, .int .i64 c, .bool bb, .int .i64 s, .int .i64 g] 79)))
  go_wp2_with (first | (at_lookup; go_loud (refine wpList_look_yes rfl (.tmp 23) (.tmp 24) rfl b i hi 84 80 tk HQ.out HQ'.out HK.out rfl rfl HS1.out ?_); intro n hO; have HO := Lib.hid hO; clear hO) | fail)
  refine (asks_at i hi HQ.out k c bb s g n _ (HO.out.kept (kept_below (Below.alloc (Below.refl _ _) (Nat.le_refl _) _))) HF.out).mono ?_
  rintro e' w2 ⟨rfl, h2⟩
  have H2 : Hid (Below W.heap.size W w2) := Lib.hid (bOn H1.out (bOn (by go_grown) h2))
  have HX : Hid (St w2 w_h1.heap.size k c bb s g) := Lib.hid (((St.new w_h1 k c bb s g).below (Below.alloc (Below.refl _ _) (Nat.le_refl _) _) (by simp)).below h2 (by simp; omega))
  have HR : Hid (Ru w2 (w_h1.heap.size + 1) 84 n tk 80) := Lib.hid (by
    have := (Ru.new (w_h1.alloc (.cells #[.int .i64 k, .int .i64 c, .bool bb, .int .i64 s, .int .i64 g] 79)) 84 n tk 80).below h2 (by simp)
    rwa [World.size_alloc] at this)
  have HB : Hid (W.heap.size ≤ w_h1.heap.size) := Lib.hid H1.out.size
  clear h2 H1 HO HS1 HF
  obtain ⟨⟨q0, q1, q2, q3, q4⟩, ⟨z0, z1, z2, z3, z4⟩, hq⟩ := HX.out.all
  obtain ⟨r0, r1, r2, hr⟩ := HR.out.all
  have hlt : W.heap.size ≤ w_h1.heap.size := HB.out
  have hne : w_h1.heap.size + 1 ≠ w_h1.heap.size := by omega
  have hne' : w_h1.heap.size ≠ w_h1.heap.size + 1 := by omega
  rw [HK.out] at HM HXX
  generalize chB i = nb at *
  have hi1 : ((i : Int) == 0) = false := by have := HN.out; simp; omega
  go_wp2_with fail
  refine (changes_at i hi HQ'.out tk c nb s g cpu HP.out.1 HP.out.2.1 _).mono ?_
  rintro e' w3 ⟨rfl, h3⟩
  have H3 : Hid (Below W.heap.size W w3) := Lib.hid (bOn (w := W) (by have hB := H2.out; go_grown) h3)
  clear h3
  go_wp2_with fail
  refine (pack_any tk (chC i c cpu) nb (chS i s) (chG i g) _ (HT.out.below H3.out)).mono ?_
  rintro e' w_h4 ⟨rfl, h4⟩
  rw [(pk_yes HM.out).1, (pk_yes HM.out).2]
  have H4 := Lib.hid (bOn H3.out h4)
  clear h4
  go_wp2
  go_ret2
  exact ⟨by rw [← HXX.out]; rfl, H4.out⟩

set_option maxHeartbeats 4000000 in
/-- The event is done. -/
theorem step_yes_ofm (b : Nat) (w : Int) (i : Nat) (hi : i < 16) (cpu : Int) (hw : U w) (h : isW w) (hQ : ofF i = 84) (hQ' : chF i = 82) (hN : i ≠ 0) (hc : 0 ≤ cpu ∧ cpu ≤ 63) (ho : ofB i (K w) (B w) = true) (hg : i = 0 → G w ≠ 4294967295) (W : World) (hT : Tab W) (hS : Sofar W b 16) :
    Calls Tryd.prog 68 #[.map (some b), .int .u64 w, .int .i64 (i : Int), .int .i64 cpu] W fun e w' => e = .returned (.tuple #[.int .u64 (word (toK i) (chC i (C w) cpu) (chB i) (chS i (S w)) (chG i (G w))), .int .i64 0]) ∧ Below W.heap.size W w' := by
  have HF := Lib.hid ho
  have HQ := Lib.hid hQ
  have HQ' := Lib.hid hQ'
  have HM : Hid (may (toK i) (chC i (C w) cpu) (chB i) (chS i (S w)) (chG i (G w))) := Lib.hid (by
    obtain ⟨-, pc, ps, pg, -⟩ := parts_may h
    exact ⟨toK_le _, chC_le _ pc hc, chS_le _ ps, chG_le _ pg hg, chB_toK _⟩)
  have HP := Lib.hid (parts_may h).2.2
  obtain ⟨X, hX⟩ : ∃ X, word (toK i) (chC i (C w) cpu) (chB i) (chS i (S w)) (chG i (G w)) = X := ⟨_, rfl⟩
  rw [hX]
  have HXX := Lib.hid hX
  clear hX
  have HG := Lib.hid hg
  have HN := Lib.hid hN
  have h8 := note_is i
  obtain ⟨c0, c1⟩ := hc
  clear ho hg hQ hQ' hN
  have HT := Lib.hid hT
  have HU := Lib.hid hw
  have HE := Lib.hid (un_yes h)
  have HS := Lib.hid hS
  clear hT hw h hS
  obtain ⟨tk, htk⟩ : ∃ tk, toK i = tk := ⟨_, rfl⟩
  have HK := Lib.hid htk
  clear htk
  go_enter Tryd.func68, Tryd.ntmps68
  go_wp2_with fail
  refine (unpack_any w HU.out _ HT.out).mono ?_
  rintro e' w_h1 ⟨rfl, h1⟩
  rw [HE.out.1, HE.out.2.1, HE.out.2.2.1, HE.out.2.2.2.1, HE.out.2.2.2.2.1, HE.out.2.2.2.2.2]
  have H1 := Lib.hid h1
  clear h1 HE
  generalize K w = k at *
  generalize C w = c at *
  generalize B w = bb at *
  generalize S w = s at *
  generalize G w = g at *
  have HS1 := Lib.hid ((HS.out.below H1.out).below (Below.alloc (Below.refl _ _) (Nat.le_refl _) (.cells #[.int .i64 k, .int .i64 c, .bool bb, .int .i64 s, .int .i64 g] 79)))
  go_wp2_with (first | (at_lookup; go_loud (refine wpList_look_yes rfl (.tmp 23) (.tmp 24) rfl b i hi 84 82 tk HQ.out HQ'.out HK.out rfl rfl HS1.out ?_); intro n hO; have HO := Lib.hid hO; clear hO) | fail)
  refine (asks_at i hi HQ.out k c bb s g n _ (HO.out.kept (kept_below (Below.alloc (Below.refl _ _) (Nat.le_refl _) _))) HF.out).mono ?_
  rintro e' w2 ⟨rfl, h2⟩
  have H2 : Hid (Below W.heap.size W w2) := Lib.hid (bOn H1.out (bOn (by go_grown) h2))
  have HX : Hid (St w2 w_h1.heap.size k c bb s g) := Lib.hid (((St.new w_h1 k c bb s g).below (Below.alloc (Below.refl _ _) (Nat.le_refl _) _) (by simp)).below h2 (by simp; omega))
  have HR : Hid (Ru w2 (w_h1.heap.size + 1) 84 n tk 82) := Lib.hid (by
    have := (Ru.new (w_h1.alloc (.cells #[.int .i64 k, .int .i64 c, .bool bb, .int .i64 s, .int .i64 g] 79)) 84 n tk 82).below h2 (by simp)
    rwa [World.size_alloc] at this)
  have HB : Hid (W.heap.size ≤ w_h1.heap.size) := Lib.hid H1.out.size
  clear h2 H1 HO HS1 HF
  obtain ⟨⟨q0, q1, q2, q3, q4⟩, ⟨z0, z1, z2, z3, z4⟩, hq⟩ := HX.out.all
  obtain ⟨r0, r1, r2, hr⟩ := HR.out.all
  have hlt : W.heap.size ≤ w_h1.heap.size := HB.out
  have hne : w_h1.heap.size + 1 ≠ w_h1.heap.size := by omega
  have hne' : w_h1.heap.size ≠ w_h1.heap.size + 1 := by omega
  rw [HK.out] at HM HXX
  generalize chB i = nb at *
  have hi1 : ((i : Int) == 0) = false := by have := HN.out; simp; omega
  go_wp2_with fail
  refine (changes_at i hi HQ'.out tk c nb s g cpu HP.out.1 HP.out.2.1 _).mono ?_
  rintro e' w3 ⟨rfl, h3⟩
  have H3 : Hid (Below W.heap.size W w3) := Lib.hid (bOn (w := W) (by have hB := H2.out; go_grown) h3)
  clear h3
  go_wp2_with fail
  refine (pack_any tk (chC i c cpu) nb (chS i s) (chG i g) _ (HT.out.below H3.out)).mono ?_
  rintro e' w_h4 ⟨rfl, h4⟩
  rw [(pk_yes HM.out).1, (pk_yes HM.out).2]
  have H4 := Lib.hid (bOn H3.out h4)
  clear h4
  go_wp2
  go_ret2
  exact ⟨by rw [← HXX.out]; rfl, H4.out⟩

set_option maxHeartbeats 4000000 in
/-- The event is done. -/
theorem step_yes_oft (b : Nat) (w : Int) (i : Nat) (hi : i < 16) (cpu : Int) (hw : U w) (h : isW w) (hQ : ofF i = 84) (hQ' : chF i = 77) (hN : i = 0) (hc : 0 ≤ cpu ∧ cpu ≤ 63) (ho : ofB i (K w) (B w) = true) (hg : i = 0 → G w ≠ 4294967295) (W : World) (hT : Tab W) (hS : Sofar W b 16) :
    Calls Tryd.prog 68 #[.map (some b), .int .u64 w, .int .i64 (i : Int), .int .i64 cpu] W fun e w' => e = .returned (.tuple #[.int .u64 (word (toK i) (chC i (C w) cpu) (chB i) (chS i (S w)) (chG i (G w))), .int .i64 0]) ∧ Below W.heap.size W w' := by
  have HF := Lib.hid ho
  have HQ := Lib.hid hQ
  have HQ' := Lib.hid hQ'
  have HM : Hid (may (toK i) (chC i (C w) cpu) (chB i) (chS i (S w)) (chG i (G w))) := Lib.hid (by
    obtain ⟨-, pc, ps, pg, -⟩ := parts_may h
    exact ⟨toK_le _, chC_le _ pc hc, chS_le _ ps, chG_le _ pg hg, chB_toK _⟩)
  have HP := Lib.hid (parts_may h).2.2
  obtain ⟨X, hX⟩ : ∃ X, word (toK i) (chC i (C w) cpu) (chB i) (chS i (S w)) (chG i (G w)) = X := ⟨_, rfl⟩
  rw [hX]
  have HXX := Lib.hid hX
  clear hX
  have HG := Lib.hid hg
  have HN := Lib.hid hN
  have h8 := note_is i
  obtain ⟨c0, c1⟩ := hc
  clear ho hg hQ hQ' hN
  have HT := Lib.hid hT
  have HU := Lib.hid hw
  have HE := Lib.hid (un_yes h)
  have HS := Lib.hid hS
  clear hT hw h hS
  obtain ⟨tk, htk⟩ : ∃ tk, toK i = tk := ⟨_, rfl⟩
  have HK := Lib.hid htk
  clear htk
  go_enter Tryd.func68, Tryd.ntmps68
  go_wp2_with fail
  refine (unpack_any w HU.out _ HT.out).mono ?_
  rintro e' w_h1 ⟨rfl, h1⟩
  rw [HE.out.1, HE.out.2.1, HE.out.2.2.1, HE.out.2.2.2.1, HE.out.2.2.2.2.1, HE.out.2.2.2.2.2]
  have H1 := Lib.hid h1
  clear h1 HE
  generalize K w = k at *
  generalize C w = c at *
  generalize B w = bb at *
  generalize S w = s at *
  generalize G w = g at *
  have HS1 := Lib.hid ((HS.out.below H1.out).below (Below.alloc (Below.refl _ _) (Nat.le_refl _) (.cells #[.int .i64 k, .int .i64 c, .bool bb, .int .i64 s, .int .i64 g] 79)))
  go_wp2_with (first | (at_lookup; go_loud (refine wpList_look_yes rfl (.tmp 23) (.tmp 24) rfl b i hi 84 77 tk HQ.out HQ'.out HK.out rfl rfl HS1.out ?_); intro n hO; have HO := Lib.hid hO; clear hO) | fail)
  refine (asks_at i hi HQ.out k c bb s g n _ (HO.out.kept (kept_below (Below.alloc (Below.refl _ _) (Nat.le_refl _) _))) HF.out).mono ?_
  rintro e' w2 ⟨rfl, h2⟩
  have H2 : Hid (Below W.heap.size W w2) := Lib.hid (bOn H1.out (bOn (by go_grown) h2))
  have HX : Hid (St w2 w_h1.heap.size k c bb s g) := Lib.hid (((St.new w_h1 k c bb s g).below (Below.alloc (Below.refl _ _) (Nat.le_refl _) _) (by simp)).below h2 (by simp; omega))
  have HR : Hid (Ru w2 (w_h1.heap.size + 1) 84 n tk 77) := Lib.hid (by
    have := (Ru.new (w_h1.alloc (.cells #[.int .i64 k, .int .i64 c, .bool bb, .int .i64 s, .int .i64 g] 79)) 84 n tk 77).below h2 (by simp)
    rwa [World.size_alloc] at this)
  have HB : Hid (W.heap.size ≤ w_h1.heap.size) := Lib.hid H1.out.size
  clear h2 H1 HO HS1 HF
  obtain ⟨⟨q0, q1, q2, q3, q4⟩, ⟨z0, z1, z2, z3, z4⟩, hq⟩ := HX.out.all
  obtain ⟨r0, r1, r2, hr⟩ := HR.out.all
  have hlt : W.heap.size ≤ w_h1.heap.size := HB.out
  have hne : w_h1.heap.size + 1 ≠ w_h1.heap.size := by omega
  have hne' : w_h1.heap.size ≠ w_h1.heap.size + 1 := by omega
  rw [HK.out] at HM HXX
  generalize chB i = nb at *
  have hi1 : ((i : Int) == 0) = true := by have := HN.out; simp; omega
  have hg : (g == 4294967295) = false := by simpa using HG.out HN.out
  go_wp2_with fail
  refine (changes_at i hi HQ'.out tk c nb s g cpu HP.out.1 HP.out.2.1 _).mono ?_
  rintro e' w3 ⟨rfl, h3⟩
  have H3 : Hid (Below W.heap.size W w3) := Lib.hid (bOn (w := W) (by have hB := H2.out; go_grown) h3)
  clear h3
  go_wp2_with fail
  refine (pack_any tk (chC i c cpu) nb (chS i s) (chG i g) _ (HT.out.below H3.out)).mono ?_
  rintro e' w_h4 ⟨rfl, h4⟩
  rw [(pk_yes HM.out).1, (pk_yes HM.out).2]
  have H4 := Lib.hid (bOn H3.out h4)
  clear h4
  go_wp2
  go_ret2
  exact ⟨by rw [← HXX.out]; rfl, H4.out⟩

set_option maxHeartbeats 4000000 in
/-- The event is done. -/
theorem step_yes_ofl (b : Nat) (w : Int) (i : Nat) (hi : i < 16) (cpu : Int) (hw : U w) (h : isW w) (hQ : ofF i = 84) (hQ' : chF i = 78) (hN : i ≠ 0) (hc : 0 ≤ cpu ∧ cpu ≤ 63) (ho : ofB i (K w) (B w) = true) (hg : i = 0 → G w ≠ 4294967295) (W : World) (hT : Tab W) (hS : Sofar W b 16) :
    Calls Tryd.prog 68 #[.map (some b), .int .u64 w, .int .i64 (i : Int), .int .i64 cpu] W fun e w' => e = .returned (.tuple #[.int .u64 (word (toK i) (chC i (C w) cpu) (chB i) (chS i (S w)) (chG i (G w))), .int .i64 0]) ∧ Below W.heap.size W w' := by
  have HF := Lib.hid ho
  have HQ := Lib.hid hQ
  have HQ' := Lib.hid hQ'
  have HM : Hid (may (toK i) (chC i (C w) cpu) (chB i) (chS i (S w)) (chG i (G w))) := Lib.hid (by
    obtain ⟨-, pc, ps, pg, -⟩ := parts_may h
    exact ⟨toK_le _, chC_le _ pc hc, chS_le _ ps, chG_le _ pg hg, chB_toK _⟩)
  have HP := Lib.hid (parts_may h).2.2
  obtain ⟨X, hX⟩ : ∃ X, word (toK i) (chC i (C w) cpu) (chB i) (chS i (S w)) (chG i (G w)) = X := ⟨_, rfl⟩
  rw [hX]
  have HXX := Lib.hid hX
  clear hX
  have HG := Lib.hid hg
  have HN := Lib.hid hN
  have h8 := note_is i
  obtain ⟨c0, c1⟩ := hc
  clear ho hg hQ hQ' hN
  have HT := Lib.hid hT
  have HU := Lib.hid hw
  have HE := Lib.hid (un_yes h)
  have HS := Lib.hid hS
  clear hT hw h hS
  obtain ⟨tk, htk⟩ : ∃ tk, toK i = tk := ⟨_, rfl⟩
  have HK := Lib.hid htk
  clear htk
  go_enter Tryd.func68, Tryd.ntmps68
  go_wp2_with fail
  refine (unpack_any w HU.out _ HT.out).mono ?_
  rintro e' w_h1 ⟨rfl, h1⟩
  rw [HE.out.1, HE.out.2.1, HE.out.2.2.1, HE.out.2.2.2.1, HE.out.2.2.2.2.1, HE.out.2.2.2.2.2]
  have H1 := Lib.hid h1
  clear h1 HE
  generalize K w = k at *
  generalize C w = c at *
  generalize B w = bb at *
  generalize S w = s at *
  generalize G w = g at *
  have HS1 := Lib.hid ((HS.out.below H1.out).below (Below.alloc (Below.refl _ _) (Nat.le_refl _) (.cells #[.int .i64 k, .int .i64 c, .bool bb, .int .i64 s, .int .i64 g] 79)))
  go_wp2_with (first | (at_lookup; go_loud (refine wpList_look_yes rfl (.tmp 23) (.tmp 24) rfl b i hi 84 78 tk HQ.out HQ'.out HK.out rfl rfl HS1.out ?_); intro n hO; have HO := Lib.hid hO; clear hO) | fail)
  refine (asks_at i hi HQ.out k c bb s g n _ (HO.out.kept (kept_below (Below.alloc (Below.refl _ _) (Nat.le_refl _) _))) HF.out).mono ?_
  rintro e' w2 ⟨rfl, h2⟩
  have H2 : Hid (Below W.heap.size W w2) := Lib.hid (bOn H1.out (bOn (by go_grown) h2))
  have HX : Hid (St w2 w_h1.heap.size k c bb s g) := Lib.hid (((St.new w_h1 k c bb s g).below (Below.alloc (Below.refl _ _) (Nat.le_refl _) _) (by simp)).below h2 (by simp; omega))
  have HR : Hid (Ru w2 (w_h1.heap.size + 1) 84 n tk 78) := Lib.hid (by
    have := (Ru.new (w_h1.alloc (.cells #[.int .i64 k, .int .i64 c, .bool bb, .int .i64 s, .int .i64 g] 79)) 84 n tk 78).below h2 (by simp)
    rwa [World.size_alloc] at this)
  have HB : Hid (W.heap.size ≤ w_h1.heap.size) := Lib.hid H1.out.size
  clear h2 H1 HO HS1 HF
  obtain ⟨⟨q0, q1, q2, q3, q4⟩, ⟨z0, z1, z2, z3, z4⟩, hq⟩ := HX.out.all
  obtain ⟨r0, r1, r2, hr⟩ := HR.out.all
  have hlt : W.heap.size ≤ w_h1.heap.size := HB.out
  have hne : w_h1.heap.size + 1 ≠ w_h1.heap.size := by omega
  have hne' : w_h1.heap.size ≠ w_h1.heap.size + 1 := by omega
  rw [HK.out] at HM HXX
  generalize chB i = nb at *
  have hi1 : ((i : Int) == 0) = false := by have := HN.out; simp; omega
  go_wp2_with fail
  refine (changes_at i hi HQ'.out tk c nb s g cpu HP.out.1 HP.out.2.1 _).mono ?_
  rintro e' w3 ⟨rfl, h3⟩
  have H3 : Hid (Below W.heap.size W w3) := Lib.hid (bOn (w := W) (by have hB := H2.out; go_grown) h3)
  clear h3
  go_wp2_with fail
  refine (pack_any tk (chC i c cpu) nb (chS i s) (chG i g) _ (HT.out.below H3.out)).mono ?_
  rintro e' w_h4 ⟨rfl, h4⟩
  rw [(pk_yes HM.out).1, (pk_yes HM.out).2]
  have H4 := Lib.hid (bOn H3.out h4)
  clear h4
  go_wp2
  go_ret2
  exact ⟨by rw [← HXX.out]; rfl, H4.out⟩

set_option maxHeartbeats 4000000 in
/-- The event is done. -/
theorem step_yes_ofc (b : Nat) (w : Int) (i : Nat) (hi : i < 16) (cpu : Int) (hw : U w) (h : isW w) (hQ : ofF i = 84) (hQ' : chF i = 79) (hN : i ≠ 0) (hc : 0 ≤ cpu ∧ cpu ≤ 63) (ho : ofB i (K w) (B w) = true) (hg : i = 0 → G w ≠ 4294967295) (W : World) (hT : Tab W) (hS : Sofar W b 16) :
    Calls Tryd.prog 68 #[.map (some b), .int .u64 w, .int .i64 (i : Int), .int .i64 cpu] W fun e w' => e = .returned (.tuple #[.int .u64 (word (toK i) (chC i (C w) cpu) (chB i) (chS i (S w)) (chG i (G w))), .int .i64 0]) ∧ Below W.heap.size W w' := by
  have HF := Lib.hid ho
  have HQ := Lib.hid hQ
  have HQ' := Lib.hid hQ'
  have HM : Hid (may (toK i) (chC i (C w) cpu) (chB i) (chS i (S w)) (chG i (G w))) := Lib.hid (by
    obtain ⟨-, pc, ps, pg, -⟩ := parts_may h
    exact ⟨toK_le _, chC_le _ pc hc, chS_le _ ps, chG_le _ pg hg, chB_toK _⟩)
  have HP := Lib.hid (parts_may h).2.2
  obtain ⟨X, hX⟩ : ∃ X, word (toK i) (chC i (C w) cpu) (chB i) (chS i (S w)) (chG i (G w)) = X := ⟨_, rfl⟩
  rw [hX]
  have HXX := Lib.hid hX
  clear hX
  have HG := Lib.hid hg
  have HN := Lib.hid hN
  have h8 := note_is i
  obtain ⟨c0, c1⟩ := hc
  clear ho hg hQ hQ' hN
  have HT := Lib.hid hT
  have HU := Lib.hid hw
  have HE := Lib.hid (un_yes h)
  have HS := Lib.hid hS
  clear hT hw h hS
  obtain ⟨tk, htk⟩ : ∃ tk, toK i = tk := ⟨_, rfl⟩
  have HK := Lib.hid htk
  clear htk
  go_enter Tryd.func68, Tryd.ntmps68
  go_wp2_with fail
  refine (unpack_any w HU.out _ HT.out).mono ?_
  rintro e' w_h1 ⟨rfl, h1⟩
  rw [HE.out.1, HE.out.2.1, HE.out.2.2.1, HE.out.2.2.2.1, HE.out.2.2.2.2.1, HE.out.2.2.2.2.2]
  have H1 := Lib.hid h1
  clear h1 HE
  generalize K w = k at *
  generalize C w = c at *
  generalize B w = bb at *
  generalize S w = s at *
  generalize G w = g at *
  have HS1 := Lib.hid ((HS.out.below H1.out).below (Below.alloc (Below.refl _ _) (Nat.le_refl _) (.cells #[.int .i64 k, .int .i64 c, .bool bb, .int .i64 s, .int .i64 g] 79)))
  go_wp2_with (first | (at_lookup; go_loud (refine wpList_look_yes rfl (.tmp 23) (.tmp 24) rfl b i hi 84 79 tk HQ.out HQ'.out HK.out rfl rfl HS1.out ?_); intro n hO; have HO := Lib.hid hO; clear hO) | fail)
  refine (asks_at i hi HQ.out k c bb s g n _ (HO.out.kept (kept_below (Below.alloc (Below.refl _ _) (Nat.le_refl _) _))) HF.out).mono ?_
  rintro e' w2 ⟨rfl, h2⟩
  have H2 : Hid (Below W.heap.size W w2) := Lib.hid (bOn H1.out (bOn (by go_grown) h2))
  have HX : Hid (St w2 w_h1.heap.size k c bb s g) := Lib.hid (((St.new w_h1 k c bb s g).below (Below.alloc (Below.refl _ _) (Nat.le_refl _) _) (by simp)).below h2 (by simp; omega))
  have HR : Hid (Ru w2 (w_h1.heap.size + 1) 84 n tk 79) := Lib.hid (by
    have := (Ru.new (w_h1.alloc (.cells #[.int .i64 k, .int .i64 c, .bool bb, .int .i64 s, .int .i64 g] 79)) 84 n tk 79).below h2 (by simp)
    rwa [World.size_alloc] at this)
  have HB : Hid (W.heap.size ≤ w_h1.heap.size) := Lib.hid H1.out.size
  clear h2 H1 HO HS1 HF
  obtain ⟨⟨q0, q1, q2, q3, q4⟩, ⟨z0, z1, z2, z3, z4⟩, hq⟩ := HX.out.all
  obtain ⟨r0, r1, r2, hr⟩ := HR.out.all
  have hlt : W.heap.size ≤ w_h1.heap.size := HB.out
  have hne : w_h1.heap.size + 1 ≠ w_h1.heap.size := by omega
  have hne' : w_h1.heap.size ≠ w_h1.heap.size + 1 := by omega
  rw [HK.out] at HM HXX
  generalize chB i = nb at *
  have hi1 : ((i : Int) == 0) = false := by have := HN.out; simp; omega
  go_wp2_with fail
  refine (changes_at i hi HQ'.out tk c nb s g cpu HP.out.1 HP.out.2.1 _).mono ?_
  rintro e' w3 ⟨rfl, h3⟩
  have H3 : Hid (Below W.heap.size W w3) := Lib.hid (bOn (w := W) (by have hB := H2.out; go_grown) h3)
  clear h3
  go_wp2_with fail
  refine (pack_any tk (chC i c cpu) nb (chS i s) (chG i g) _ (HT.out.below H3.out)).mono ?_
  rintro e' w_h4 ⟨rfl, h4⟩
  rw [(pk_yes HM.out).1, (pk_yes HM.out).2]
  have H4 := Lib.hid (bOn H3.out h4)
  clear h4
  go_wp2
  go_ret2
  exact ⟨by rw [← HXX.out]; rfl, H4.out⟩

theorem take_zero (i : Nat) (hi : i < 16) (h : chF i = 77) : i = 0 := by
  revert i
  decide
theorem step_yes (b : Nat) (w : Int) (i : Nat) (hi : i < 16) (cpu : Int) (hw : U w) (h : isW w) (hc : 0 ≤ cpu ∧ cpu ≤ 63) (ho : ofB i (K w) (B w) = true) (hg : i = 0 → G w ≠ 4294967295) (W : World) (hT : Tab W) (hS : Sofar W b 16) :
    Calls Tryd.prog 68 #[.map (some b), .int .u64 w, .int .i64 (i : Int), .int .i64 cpu] W fun e w' => e = .returned (.tuple #[.int .u64 (word (toK i) (chC i (C w) cpu) (chB i) (chS i (S w)) (chG i (G w))), .int .i64 0]) ∧ Below W.heap.size W w' := by
  rcases fns_two i hi with ⟨q, q'⟩ | ⟨q, q'⟩ | ⟨q, q'⟩ | ⟨q, q'⟩ | ⟨q, q'⟩ | ⟨q, q'⟩
  · exact step_yes_bls b w i hi cpu hw h q q' (by rintro rfl; exact absurd q' (by decide)) hc ho hg W hT hS
  · exact step_yes_ofs b w i hi cpu hw h q q' (by rintro rfl; exact absurd q' (by decide)) hc ho hg W hT hS
  · exact step_yes_ofm b w i hi cpu hw h q q' (by rintro rfl; exact absurd q' (by decide)) hc ho hg W hT hS
  · exact step_yes_oft b w i hi cpu hw h q q' (take_zero i hi q') hc ho hg W hT hS
  · exact step_yes_ofl b w i hi cpu hw h q q' (by rintro rfl; exact absurd q' (by decide)) hc ho hg W hT hS
  · exact step_yes_ofc b w i hi cpu hw h q q' (by rintro rfl; exact absurd q' (by decide)) hc ho hg W hT hS

end Go.Proofs.YtjikabalpejmlaaDoor
