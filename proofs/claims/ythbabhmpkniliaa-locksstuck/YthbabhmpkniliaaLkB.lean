/-
  Contracts of locks.Take, Give, New, Pair.
-/
import Derived.Test.YthbabhmpkniliaaLkA
namespace Go.Proofs.Ythbabhmpkniliaa
open Go.RowKit Go.ChangeAt Go.ChangeShapes Go.WideShapes Lk

theorem takeE_arg {l : List Int} {lock who : Int} (h : isL l lock = false ∨ who < 0) : takeE l lock who = 1 := by unfold takeE; rw [if_pos h]
theorem giveE_arg {l : List Int} {lock who : Int} (h : isL l lock = false ∨ who < 0) : giveE l lock who = 1 := by unfold giveE; rw [if_pos h]
theorem takeE_at {l : List Int} {k : Nat} {who : Int} (hk : k < l.length) (hw : 0 ≤ who) : takeE l k who = if l.getD k 0 = who then 4 else if 0 ≤ l.getD k 0 then 11 else 0 := by
  unfold takeE; rw [if_neg (by rw [isL_mk hk]; simp; omega)]; rfl
theorem giveE_at {l : List Int} {k : Nat} {who : Int} (hk : k < l.length) (hw : 0 ≤ who) : giveE l k who = if l.getD k 0 ≠ who then 4 else 0 := by
  unfold giveE; rw [if_neg (by rw [isL_mk hk]; simp; omega)]; rfl

/-- What is told with an error. -/
theorem took_err {W w1 : World} (E : Int) (hb : Below W.heap.size W w1) (e : Ending) (he : e = .returned (.tuple #[.agg #[.slice none 0 0], .int .i64 E])) : Took W E [] e w1 :=
  ⟨⟨_, he, Own.nil _ _ _ _⟩, hb⟩

set_option maxRecDepth 100000 in
theorem take_any {W : World} {v : Value} {l : List Int} (h : Ints .i64 W v l) (hl : l.length ≤ 1000) (lock who : Int) :
    Calls Try.prog 11 #[.agg #[v], .int .i64 lock, .int .i64 who] W (Took W (takeE l lock who) (takeL l lock who)) := by
  have HN := Lib.hid h
  have HB0 := Lib.hid (((Below.refl W.heap.size W).alloc (Nat.le_refl _) (.cells #[v] 24)).alloc (by simp) (.cells #[.slice none 0 0] 24))
  have bad : ∀ E : Int, E ≠ 0 → takeE l lock who = E → takeL l lock who = [] := fun E h1 h2 => by unfold takeL; rw [if_neg (by rw [h2]; exact h1)]
  by_cases hA : isL l lock = false ∨ who < 0
  · rw [bad 1 (by decide) (takeE_arg hA), takeE_arg hA]
    cases hL : isL l lock with
    | false =>
      have HI := Lib.hid hL
      clear bad hA h hL
      go_enter Try.func11, Try.ntmps11
      go_wp2_with fail
      refine (isLock_any (HN.out.below HB0.out) lock).mono ?_
      rintro e w1 ⟨rfl, hb⟩
      rw [HI.out]
      obtain ⟨hr1, hr2⟩ := res_kept hb
      have HB : Hid (Below W.heap.size W w1) := Lib.hid (bOn HB0.out hb)
      have HS := Lib.hid (World.cell?_setCell_same' w1 ⟨W.heap.size + 1, 0, none⟩ (.slice none 0 0) (by rw [hr1]; rfl))
      clear hb
      go_wp2
      exact bodyPost_ret (v := .tuple #[.agg #[.slice none 0 0], .int .i64 1]) (by simp [results, Try.results11, go_sem, HS.out]) rfl (took_err 1 (HB.out.setCell (by show W.heap.size ≤ W.heap.size + 1; omega) _) _ rfl)
    | true =>
      have hw : who < 0 := by rcases hA with h | h; (rw [hL] at h; cases h); exact h
      have hd : decide (who < 0) = true := decide_eq_true hw
      have HI := Lib.hid hL
      clear bad hA h hL
      go_enter Try.func11, Try.ntmps11
      go_wp2_with fail
      refine (isLock_any (HN.out.below HB0.out) lock).mono ?_
      rintro e w1 ⟨rfl, hb⟩
      rw [HI.out]
      obtain ⟨hr1, hr2⟩ := res_kept hb
      have HB : Hid (Below W.heap.size W w1) := Lib.hid (bOn HB0.out hb)
      have HS := Lib.hid (World.cell?_setCell_same' w1 ⟨W.heap.size + 1, 0, none⟩ (.slice none 0 0) (by rw [hr1]; rfl))
      clear hb
      go_wp2
      exact bodyPost_ret (v := .tuple #[.agg #[.slice none 0 0], .int .i64 1]) (by simp [results, Try.results11, go_sem, HS.out]) rfl (took_err 1 (HB.out.setCell (by show W.heap.size ≤ W.heap.size + 1; omega) _) _ rfl)
  · have hL : isL l lock = true := by cases e : isL l lock with
      | false => exact absurd (.inl e) hA
      | true => rfl
    have hw : 0 ≤ who := Int.not_lt.1 (fun e => hA (.inr e))
    have hd : decide (who < 0) = false := decide_eq_false (by omega)
    obtain ⟨k, rfl, hk⟩ := isL_nat hL
    have HI := Lib.hid hL
    rcases h.parts with ⟨h0, -⟩ | ⟨-, -, b, off, cap, rfl, hbl, hc⟩
    · rw [h0] at hk; simp at hk
    have HC := Lib.hid (hc k hk)
    obtain ⟨x, hx⟩ : ∃ x, l.getD k 0 = x := ⟨_, rfl⟩
    have HT := takeE_at hk hw
    have HX := Lib.hid hx
    rw [hx] at HT
    clear hc hA h hx hL
    by_cases h1 : x = who
    · rw [if_pos h1] at HT
      rw [bad 4 (by decide) HT, HT]
      have hd1 : (x == who) = true := by simp [h1]
      have hd2 : (who == x) = true := by simp [h1]
      clear bad HT h1
      go_enter Try.func11, Try.ntmps11
      go_wp2_with fail
      refine (isLock_any (HN.out.below HB0.out) k).mono ?_
      rintro e w1 ⟨rfl, hb⟩
      rw [HI.out]
      obtain ⟨hr1, hr2⟩ := res_kept hb
      have HB : Hid (Below W.heap.size W w1) := Lib.hid (bOn HB0.out hb)
      have hc1 : w1.cell? ⟨b, off + k, none⟩ = some (.int .i64 x) := by rw [HB.out.cell hbl, HC.out, HX.out]
      have hc2 : w1.cell? ⟨W.heap.size, 0, none⟩ = some (.slice (some ⟨b, off, none⟩) l.length cap) := by
        rw [hb.cell (by simp; omega)]; exact (Below.refl (W.heap.size + 1) _ |>.alloc (by simp) _).cell (w := W.alloc (.cells #[_] _)) (p := ⟨W.heap.size, 0, none⟩) (by show W.heap.size < W.heap.size + 1; omega) |>.trans (at_new W _ _).1
      have HS := Lib.hid (World.cell?_setCell_same' w1 ⟨W.heap.size + 1, 0, none⟩ (.slice none 0 0) (by rw [hr1]; rfl))
      clear hb
      go_wp2
      exact bodyPost_ret (v := .tuple #[.agg #[.slice none 0 0], .int .i64 4]) (by simp [results, Try.results11, go_sem, HS.out]) rfl (took_err 4 (HB.out.setCell (by show W.heap.size ≤ W.heap.size + 1; omega) _) _ rfl)
    · rw [if_neg h1] at HT
      have hd1 : (x == who) = false := by simp [h1]
      have hd2 : (who == x) = false := by simp; exact fun e => h1 e.symm
      by_cases h2 : 0 ≤ x
      · rw [if_pos h2] at HT
        rw [bad 11 (by decide) HT, HT]
        have hd3 : decide (x ≥ 0) = true := decide_eq_true h2
        have hd4 : decide (0 ≤ x) = true := decide_eq_true h2
        clear bad HT h1
        go_enter Try.func11, Try.ntmps11
        go_wp2_with fail
        refine (isLock_any (HN.out.below HB0.out) k).mono ?_
        rintro e w1 ⟨rfl, hb⟩
        rw [HI.out]
        obtain ⟨hr1, hr2⟩ := res_kept hb
        have HB : Hid (Below W.heap.size W w1) := Lib.hid (bOn HB0.out hb)
        have hc1 : w1.cell? ⟨b, off + k, none⟩ = some (.int .i64 x) := by rw [HB.out.cell hbl, HC.out, HX.out]
        have hc2 : w1.cell? ⟨W.heap.size, 0, none⟩ = some (.slice (some ⟨b, off, none⟩) l.length cap) := by
          rw [hb.cell (by simp; omega)]; exact (Below.refl (W.heap.size + 1) _ |>.alloc (by simp) _).cell (w := W.alloc (.cells #[_] _)) (p := ⟨W.heap.size, 0, none⟩) (by show W.heap.size < W.heap.size + 1; omega) |>.trans (at_new W _ _).1
        have HS := Lib.hid (World.cell?_setCell_same' w1 ⟨W.heap.size + 1, 0, none⟩ (.slice none 0 0) (by rw [hr1]; rfl))
        clear hb
        go_wp2
        exact bodyPost_ret (v := .tuple #[.agg #[.slice none 0 0], .int .i64 11]) (by simp [results, Try.results11, go_sem, HS.out]) rfl (took_err 11 (HB.out.setCell (by show W.heap.size ≤ W.heap.size + 1; omega) _) _ rfl)
      · rw [if_neg h2] at HT
        have hd3 : decide (x ≥ 0) = false := decide_eq_false h2
        have hd4 : decide (0 ≤ x) = false := decide_eq_false h2
        have HL : takeL l k who = l.set k who := by unfold takeL; rw [if_pos HT]; rfl
        rw [HL, HT]
        clear bad HT h1 HL
        go_enter Try.func11, Try.ntmps11
        go_wp2_with fail
        refine (isLock_any (HN.out.below HB0.out) k).mono ?_
        rintro e w1 ⟨rfl, hb⟩
        rw [HI.out]
        obtain ⟨hr1, hr2⟩ := res_kept hb
        have HB : Hid (Below W.heap.size W w1) := Lib.hid (bOn HB0.out hb)
        have hc1 : w1.cell? ⟨b, off + k, none⟩ = some (.int .i64 x) := by rw [HB.out.cell hbl, HC.out, HX.out]
        have hc2 : w1.cell? ⟨W.heap.size, 0, none⟩ = some (.slice (some ⟨b, off, none⟩) l.length cap) := by
          rw [hb.cell (by simp; omega)]; exact (Below.refl (W.heap.size + 1) _ |>.alloc (by simp) _).cell (w := W.alloc (.cells #[_] _)) (p := ⟨W.heap.size, 0, none⟩) (by show W.heap.size < W.heap.size + 1; omega) |>.trans (at_new W _ _).1
        have HS1 : Hid (W.heap.size + 1 < w1.heap.size) := Lib.hid (by have := hb.size; simp at this; omega)
        clear hb
        go_wp2_with fail
        refine (with_any (HN.out.below HB.out) hl hk who).mono ?_
        rintro e w2 ⟨⟨v', rfl, hO⟩, hb⟩
        have hr3 := cell_kept hb HS1.out hr1 hr2
        obtain ⟨g, cap2, rfl, hg1, hg2⟩ := World.ownsRow.form hO (by simp; omega)
        obtain ⟨hr4, hr5⟩ := hr3
        rw [List.length_set] at hO ⊢
        have HO := Lib.hid hO
        have HB2 : Hid (Below W.heap.size W w2) := Lib.hid (bOn HB.out hb)
        have HS := Lib.hid (World.cell?_setCell_same' w2 ⟨W.heap.size + 1, 0, none⟩ (.slice (some ⟨g, 0, none⟩) l.length cap2) (by rw [hr4]; rfl))
        have HG : Hid (g ≠ W.heap.size + 1 ∧ W.heap.size ≤ g) := Lib.hid (by have := HS1.out; omega)
        clear hO hb hr1 hr2
        go_wp2
        refine bodyPost_ret (v := .tuple #[.agg #[.slice (some ⟨g, 0, none⟩) l.length cap2], .int .i64 0]) (by simp [results, Try.results11, go_sem, HS.out]) rfl ⟨⟨_, rfl, ?_⟩, HB2.out.setCell (by show W.heap.size ≤ W.heap.size + 1; omega) _⟩
        exact ((HO.out.mono (by have := HS1.out; omega)).other (by simpa [Value.ownBlock] using HG.out.1))

set_option maxRecDepth 100000 in
theorem give_any {W : World} {v : Value} {l : List Int} (h : Ints .i64 W v l) (hl : l.length ≤ 1000) (lock who : Int) :
    Calls Try.prog 13 #[.agg #[v], .int .i64 lock, .int .i64 who] W (Took W (giveE l lock who) (giveL l lock who)) := by
  have HN := Lib.hid h
  have HB0 := Lib.hid (((Below.refl W.heap.size W).alloc (Nat.le_refl _) (.cells #[v] 24)).alloc (by simp) (.cells #[.slice none 0 0] 24))
  have bad : ∀ E : Int, E ≠ 0 → giveE l lock who = E → giveL l lock who = [] := fun E h1 h2 => by unfold giveL; rw [if_neg (by rw [h2]; exact h1)]
  by_cases hA : isL l lock = false ∨ who < 0
  · rw [bad 1 (by decide) (giveE_arg hA), giveE_arg hA]
    cases hL : isL l lock with
    | false =>
      have HI := Lib.hid hL
      clear bad hA h hL
      go_enter Try.func13, Try.ntmps13
      go_wp2_with fail
      refine (isLock_any (HN.out.below HB0.out) lock).mono ?_
      rintro e w1 ⟨rfl, hb⟩
      rw [HI.out]
      obtain ⟨hr1, hr2⟩ := res_kept hb
      have HB : Hid (Below W.heap.size W w1) := Lib.hid (bOn HB0.out hb)
      have HS := Lib.hid (World.cell?_setCell_same' w1 ⟨W.heap.size + 1, 0, none⟩ (.slice none 0 0) (by rw [hr1]; rfl))
      clear hb
      go_wp2
      exact bodyPost_ret (v := .tuple #[.agg #[.slice none 0 0], .int .i64 1]) (by simp [results, Try.results13, go_sem, HS.out]) rfl (took_err 1 (HB.out.setCell (by show W.heap.size ≤ W.heap.size + 1; omega) _) _ rfl)
    | true =>
      have hw : who < 0 := by rcases hA with h | h; (rw [hL] at h; cases h); exact h
      have hd : decide (who < 0) = true := decide_eq_true hw
      have HI := Lib.hid hL
      clear bad hA h hL
      go_enter Try.func13, Try.ntmps13
      go_wp2_with fail
      refine (isLock_any (HN.out.below HB0.out) lock).mono ?_
      rintro e w1 ⟨rfl, hb⟩
      rw [HI.out]
      obtain ⟨hr1, hr2⟩ := res_kept hb
      have HB : Hid (Below W.heap.size W w1) := Lib.hid (bOn HB0.out hb)
      have HS := Lib.hid (World.cell?_setCell_same' w1 ⟨W.heap.size + 1, 0, none⟩ (.slice none 0 0) (by rw [hr1]; rfl))
      clear hb
      go_wp2
      exact bodyPost_ret (v := .tuple #[.agg #[.slice none 0 0], .int .i64 1]) (by simp [results, Try.results13, go_sem, HS.out]) rfl (took_err 1 (HB.out.setCell (by show W.heap.size ≤ W.heap.size + 1; omega) _) _ rfl)
  · have hL : isL l lock = true := by cases e : isL l lock with
      | false => exact absurd (.inl e) hA
      | true => rfl
    have hw : 0 ≤ who := Int.not_lt.1 (fun e => hA (.inr e))
    have hd : decide (who < 0) = false := decide_eq_false (by omega)
    obtain ⟨k, rfl, hk⟩ := isL_nat hL
    have HI := Lib.hid hL
    rcases h.parts with ⟨h0, -⟩ | ⟨-, -, b, off, cap, rfl, hbl, hc⟩
    · rw [h0] at hk; simp at hk
    have HC := Lib.hid (hc k hk)
    obtain ⟨x, hx⟩ : ∃ x, l.getD k 0 = x := ⟨_, rfl⟩
    have HT := giveE_at hk hw
    have HX := Lib.hid hx
    rw [hx] at HT
    clear hc hA h hx hL
    by_cases h1 : x ≠ who
    · rw [if_pos h1] at HT
      rw [bad 4 (by decide) HT, HT]
      have hd1 : (x == who) = false := by simp [h1]
      have hd2 : (who == x) = false := by simp; exact fun e => h1 e.symm
      clear bad HT
      go_enter Try.func13, Try.ntmps13
      go_wp2_with fail
      refine (isLock_any (HN.out.below HB0.out) k).mono ?_
      rintro e w1 ⟨rfl, hb⟩
      rw [HI.out]
      obtain ⟨hr1, hr2⟩ := res_kept hb
      have HB : Hid (Below W.heap.size W w1) := Lib.hid (bOn HB0.out hb)
      have hc1 : w1.cell? ⟨b, off + k, none⟩ = some (.int .i64 x) := by rw [HB.out.cell hbl, HC.out, HX.out]
      have hc2 : w1.cell? ⟨W.heap.size, 0, none⟩ = some (.slice (some ⟨b, off, none⟩) l.length cap) := by
        rw [hb.cell (by simp; omega)]; exact (Below.refl (W.heap.size + 1) _ |>.alloc (by simp) _).cell (w := W.alloc (.cells #[_] _)) (p := ⟨W.heap.size, 0, none⟩) (by show W.heap.size < W.heap.size + 1; omega) |>.trans (at_new W _ _).1
      have HS := Lib.hid (World.cell?_setCell_same' w1 ⟨W.heap.size + 1, 0, none⟩ (.slice none 0 0) (by rw [hr1]; rfl))
      clear hb
      go_wp2
      exact bodyPost_ret (v := .tuple #[.agg #[.slice none 0 0], .int .i64 4]) (by simp [results, Try.results13, go_sem, HS.out]) rfl (took_err 4 (HB.out.setCell (by show W.heap.size ≤ W.heap.size + 1; omega) _) _ rfl)
    · rw [if_neg h1] at HT
      have h1 : x = who := Decidable.not_not.1 h1
      have hd1 : (x == who) = true := by simp [h1]
      have hd2 : (who == x) = true := by simp [h1]
      have hd3 : (who == who) = true := by simp
      have HL : giveL l k who = l.set k (-1) := by unfold giveL; rw [if_pos HT]; rfl
      rw [HL, HT]
      subst h1
      clear bad HT HL
      go_enter Try.func13, Try.ntmps13
      go_wp2_with fail
      refine (isLock_any (HN.out.below HB0.out) k).mono ?_
      rintro e w1 ⟨rfl, hb⟩
      rw [HI.out]
      obtain ⟨hr1, hr2⟩ := res_kept hb
      have HB : Hid (Below W.heap.size W w1) := Lib.hid (bOn HB0.out hb)
      have hc1 : w1.cell? ⟨b, off + k, none⟩ = some (.int .i64 x) := by rw [HB.out.cell hbl, HC.out, HX.out]
      have hc2 : w1.cell? ⟨W.heap.size, 0, none⟩ = some (.slice (some ⟨b, off, none⟩) l.length cap) := by
        rw [hb.cell (by simp; omega)]; exact (Below.refl (W.heap.size + 1) _ |>.alloc (by simp) _).cell (w := W.alloc (.cells #[_] _)) (p := ⟨W.heap.size, 0, none⟩) (by show W.heap.size < W.heap.size + 1; omega) |>.trans (at_new W _ _).1
      have HS1 : Hid (W.heap.size + 1 < w1.heap.size) := Lib.hid (by have := hb.size; simp at this; omega)
      clear hb
      go_wp2_with fail
      refine (with_any (HN.out.below HB.out) hl hk (-1)).mono ?_
      rintro e w2 ⟨⟨v', rfl, hO⟩, hb⟩
      have hr3 := cell_kept hb HS1.out hr1 hr2
      obtain ⟨g, cap2, rfl, hg1, hg2⟩ := World.ownsRow.form hO (by simp; omega)
      obtain ⟨hr4, hr5⟩ := hr3
      rw [List.length_set] at hO ⊢
      have HO := Lib.hid hO
      have HB2 : Hid (Below W.heap.size W w2) := Lib.hid (bOn HB.out hb)
      have HS := Lib.hid (World.cell?_setCell_same' w2 ⟨W.heap.size + 1, 0, none⟩ (.slice (some ⟨g, 0, none⟩) l.length cap2) (by rw [hr4]; rfl))
      have HG : Hid (g ≠ W.heap.size + 1 ∧ W.heap.size ≤ g) := Lib.hid (by have := HS1.out; omega)
      clear hO hb hr1 hr2
      go_wp2
      refine bodyPost_ret (v := .tuple #[.agg #[.slice (some ⟨g, 0, none⟩) l.length cap2], .int .i64 0]) (by simp [results, Try.results13, go_sem, HS.out]) rfl ⟨⟨_, rfl, ?_⟩, HB2.out.setCell (by show W.heap.size ≤ W.heap.size + 1; omega) _⟩
      exact ((HO.out.mono (by have := HS1.out; omega)).other (by simpa [Value.ownBlock] using HG.out.1))

theorem pair_any (a b : Int) (W : World) :
    Calls Try.prog 17 #[.int .i64 a, .int .i64 b] W fun e w' => e = .returned (.tuple #[.int .i64 (min a b), .int .i64 (max a b)]) ∧ w' = W := by
  go_enter Try.func17, Try.ntmps17
  go_wp2
  all_goals (go_ret2; refine ⟨?_, rfl⟩; simp; omega)
end Go.Proofs.Ythbabhmpkniliaa
