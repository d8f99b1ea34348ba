/-
  Contracts of the document's own answers on locks: put, Take, Give, New, Pair.
-/
import Derived.Test.YthbabhmpkniliaaLkN
import Derived.Sort.Grow
namespace Go.Proofs.Ythbabhmpkniliaa
open Go.RowKit Go.ChangeAt Go.ChangeShapes Go.WideShapes Lk

theorem up2 {W : World} {o p : Obj} {a : Addr} {x : Value} (h : W.cell? a = some x) : ((W.alloc o).alloc p).cell? a = some x := by
  have hb : Below W.heap.size W ((W.alloc o).alloc p) := ((Below.refl _ _).alloc (Nat.le_refl _) _).alloc (by simp) _
  exact (hb.cell (World.block_lt_of_cell? W _ h)).trans h

set_option maxRecDepth 100000 in
theorem rput_any {W : World} {v : Value} {l : List Int} (h : Ints .i64 W v l) (hl : l.length ≤ 1000) {k : Nat} (hk : k < l.length) (who : Int) :
    Calls Try.prog 30 #[.agg #[v], .int .i64 k, .int .i64 who] W fun e w' => (∃ v', e = .returned (.agg #[v']) ∧ Own .i64 w' W.heap.size 3 v' (l.set k who)) ∧ Below W.heap.size W w' := by
  have HB0 := Lib.hid (((Below.refl W.heap.size W).alloc (Nat.le_refl _) (.cells #[v] 24)).alloc (by simp) (.cells #[.slice none 0 0] 24))
  have HN := Lib.hid (h.below HB0.out)
  clear h
  go_enter Try.func30, Try.ntmps30
  go_wp2_with (at_builtin; refine wpList_append_ints (k := .i64) (bytes := 8) rfl (.const (.slice none 0 0)) (.tmp 9) 22 rfl _ 3 Try.underlying22 ints_info (by decide) [] l (Own.nil _ _ _ _) HN.out (by simp only [List.length_nil]; omega) (Nat.le_refl _) ?_; intro v' w1 hO hb; have HOO := Lib.hid hO; obtain ⟨g, cap, rfl, hg1, hg2⟩ := World.ownsRow.form hO (by simp; omega); obtain ⟨hr1, hr2⟩ := res_kept hb; rw [List.nil_append] at hO; have hcell : w1.cell? ⟨g, k, none⟩ = some (.int .i64 (l.getD k 0)) := Own.cellAt rfl hO hk; have hfr : w1.frozen? ⟨g, k, none⟩ = false := Own.frozenAt rfl hO k; have HO := Lib.hid hO; have HB : Hid (Below W.heap.size W w1) := Lib.hid (bOn HB0.out hb); have HG : Hid (W.heap.size ≤ g) := Lib.hid (by simp at hg1; omega); have hne : ¬ g = W.heap.size + 1 := (by simp at hg1; omega); clear hO hb hg1 hg2; rw [List.nil_append])
  have hs := World.cell?_setCell_same' (w1.setCell ⟨g, k, none⟩ (.int .i64 who)) ⟨W.heap.size + 1, 0, none⟩ (.slice (some ⟨g, 0, none⟩) l.length cap) (by rw [cell_far (fun e => hne e.symm), hr1]; rfl)
  have HS := Lib.hid hs
  clear hs
  go_wp2
  refine bodyPost_ret (v := .agg #[.slice (some ⟨g, 0, none⟩) l.length cap]) (by simp [results, Try.results30, go_sem, HS.out]) rfl ⟨⟨_, rfl, ?_⟩, ?_⟩
  · exact ((HO.out.set k who).mono (by simp; omega)).other (by intro e; have := HG.out; simp [Value.ownBlock] at e; omega)
  · exact (HB.out.setCell (by exact HG.out) _).setCell (by show W.heap.size ≤ W.heap.size + 1; omega) _

theorem rpair_any (a b : Int) (W : World) :
    Calls Try.prog 18 #[.int .i64 a, .int .i64 b] W fun e w' => e = .returned (.tuple #[.int .i64 (min a b), .int .i64 (max a b)]) ∧ w' = W := by
  by_cases h : a < b
  · have hd : decide (a < b) = true := decide_eq_true h
    have e1 : Hid (min a b = a) := Lib.hid (by omega)
    have e2 : Hid (max a b = b) := Lib.hid (by omega)
    rw [e1.out, e2.out]
    go_enter Try.func18, Try.ntmps18
    go_wp2
    go_ret2
    exact ⟨rfl, rfl⟩
  · have hd : decide (a < b) = false := decide_eq_false h
    have e1 : Hid (min a b = b) := Lib.hid (by omega)
    have e2 : Hid (max a b = a) := Lib.hid (by omega)
    rw [e1.out, e2.out]
    go_enter Try.func18, Try.ntmps18
    go_wp2
    go_ret2
    exact ⟨rfl, rfl⟩

set_option maxRecDepth 100000 in
theorem rtake_any {W : World} {v : Value} {l : List Int} (h : Ints .i64 W v l) (hl : l.length ≤ 1000) (lock who : Int) :
    Calls Try.prog 12 #[.agg #[v], .int .i64 lock, .int .i64 who] W (Took W (takeE l lock who) (takeL l lock who)) := by
  have HN := Lib.hid h
  obtain ⟨a0, cap0, hv0⟩ : ∃ a c, v = .slice a l.length c := by obtain ⟨a, c, e, -⟩ := h; exact ⟨a, c, e⟩
  have HB0 := Lib.hid (((Below.refl W.heap.size W).alloc (Nat.le_refl _) (.cells #[v] 24)).alloc (by simp) (.cells #[.slice none 0 0] 24))
  have HS := Lib.hid (res_kept (W := W) (o := .cells #[v] 24) (x := .slice none 0 0) (t := 24) (Below.refl _ _)).1
  have bad : ∀ E : Int, E ≠ 0 → takeE l lock who = E → takeL l lock who = [] := fun E h1 h2 => by unfold takeL; rw [if_neg (by rw [h2]; exact h1)]
  by_cases h0 : lock < 0
  · have hA : isL l lock = false ∨ who < 0 := .inl (isL_neg h0)
    rw [bad 1 (by decide) (takeE_arg hA), takeE_arg hA]
    have hd : decide (lock < 0) = true := decide_eq_true h0
    subst hv0
    clear bad hA h h0
    go_enter Try.func12, Try.ntmps12
    go_wp2
    exact bodyPost_ret (v := .tuple #[.agg #[.slice none 0 0], .int .i64 1]) (by simp [results, Try.results12, go_sem, HS.out]) rfl (took_err 1 HB0.out _ rfl)
  · obtain ⟨k, rfl⟩ : ∃ k : Nat, lock = k := ⟨lock.toNat, by omega⟩
    have hd0 : decide ((k : Int) < 0) = false := decide_eq_false (by omega)
    by_cases hk : k < l.length
    · have hd1 : decide ((k : Int) ≥ (l.length : Int)) = false := decide_eq_false (by omega)
      have hd2 : decide (l.length ≤ k) = false := decide_eq_false (by omega)
      by_cases hw0 : who < 0
      · have hA : isL l k = false ∨ who < 0 := .inr hw0
        rw [bad 1 (by decide) (takeE_arg hA), takeE_arg hA]
        have hd : decide (who < 0) = true := decide_eq_true hw0
        subst hv0
        clear bad hA h hw0
        go_enter Try.func12, Try.ntmps12
        go_wp2
        exact bodyPost_ret (v := .tuple #[.agg #[.slice none 0 0], .int .i64 1]) (by simp [results, Try.results12, go_sem, HS.out]) rfl (took_err 1 HB0.out _ rfl)
      · have hw : 0 ≤ who := by omega
        have hd : decide (who < 0) = false := decide_eq_false (by omega)
        rcases h.parts with ⟨h0, -⟩ | ⟨-, -, b, off, cap, rfl, hbl, hc⟩
        · rw [h0] at hk; simp at hk
        have hc1 := up2 (o := .cells #[.slice (some ⟨b, off, none⟩) l.length cap] 24) (p := .cells #[.slice none 0 0] 24) (hc k hk)
        obtain ⟨x, hx⟩ : ∃ x, l.getD k 0 = x := ⟨_, rfl⟩
        rw [hx] at hc1
        have HT := takeE_at hk hw
        rw [hx] at HT
        clear hc h hx hv0 hw0 h0
        by_cases h1 : x = who
        · rw [if_pos h1] at HT
          rw [bad 4 (by decide) HT, HT]
          have hd3 : (x == who) = true := by simp [h1]
          clear bad HT h1
          go_enter Try.func12, Try.ntmps12
          go_wp2
          exact bodyPost_ret (v := .tuple #[.agg #[.slice none 0 0], .int .i64 4]) (by simp [results, Try.results12, go_sem, HS.out]) rfl (took_err 4 HB0.out _ rfl)
        · rw [if_neg h1] at HT
          have hd3 : (x == who) = false := by simp [h1]
          by_cases h2 : 0 ≤ x
          · rw [if_pos h2] at HT
            rw [bad 11 (by decide) HT, HT]
            have hd4 : decide (x ≥ 0) = true := decide_eq_true h2
            clear bad HT h1
            go_enter Try.func12, Try.ntmps12
            go_wp2
            exact bodyPost_ret (v := .tuple #[.agg #[.slice none 0 0], .int .i64 11]) (by simp [results, Try.results12, go_sem, HS.out]) rfl (took_err 11 HB0.out _ rfl)
          · rw [if_neg h2] at HT
            have hd4 : decide (x ≥ 0) = false := decide_eq_false h2
            have HL : takeL l k who = l.set k who := by unfold takeL; rw [if_pos HT]; rfl
            rw [HL, HT]
            clear bad HT h1 HL
            go_enter Try.func12, Try.ntmps12
            go_wp2_with fail
            refine (rput_any (HN.out.below HB0.out) hl hk who).mono ?_
            rintro e w2 ⟨⟨v', rfl, hO⟩, hb⟩
            obtain ⟨hr4, hr5⟩ := res_kept hb
            obtain ⟨g, cap2, rfl, hg1, hg2⟩ := World.ownsRow.form hO (by simp; omega)
            rw [List.length_set] at hO ⊢
            have HO := Lib.hid hO
            have HB2 : Hid (Below W.heap.size W w2) := Lib.hid (bOn HB0.out hb)
            have HS := Lib.hid (World.cell?_setCell_same' w2 ⟨W.heap.size + 1, 0, none⟩ (.slice (some ⟨g, 0, none⟩) l.length cap2) (by rw [hr4]; rfl))
            have HG : Hid (g ≠ W.heap.size + 1 ∧ W.heap.size ≤ g) := Lib.hid (by simp at hg1; omega)
            clear hO hb hg1 hg2
            go_wp2
            refine bodyPost_ret (v := .tuple #[.agg #[.slice (some ⟨g, 0, none⟩) l.length cap2], .int .i64 0]) (by simp [results, Try.results12, go_sem, HS.out]) rfl ⟨⟨_, rfl, ?_⟩, HB2.out.setCell (by show W.heap.size ≤ W.heap.size + 1; omega) _⟩
            exact ((HO.out.mono (by simp; omega)).other (by simpa [Value.ownBlock] using HG.out.1))
    · have hA : isL l k = false ∨ who < 0 := .inl (isL_ge (by omega))
      rw [bad 1 (by decide) (takeE_arg hA), takeE_arg hA]
      have hd1 : decide ((k : Int) ≥ (l.length : Int)) = true := decide_eq_true (by omega)
      have hd2 : decide (l.length ≤ k) = true := decide_eq_true (by omega)
      subst hv0
      clear bad hA h h0 hk
      go_enter Try.func12, Try.ntmps12
      go_wp2
      exact bodyPost_ret (v := .tuple #[.agg #[.slice none 0 0], .int .i64 1]) (by simp [results, Try.results12, go_sem, HS.out]) rfl (took_err 1 HB0.out _ rfl)

set_option maxRecDepth 100000 in
theorem rgive_any {W : World} {v : Value} {l : List Int} (h : Ints .i64 W v l) (hl : l.length ≤ 1000) (lock who : Int) :
    Calls Try.prog 14 #[.agg #[v], .int .i64 lock, .int .i64 who] W (Took W (giveE l lock who) (giveL l lock who)) := by
  have HN := Lib.hid h
  obtain ⟨a0, cap0, hv0⟩ : ∃ a c, v = .slice a l.length c := by obtain ⟨a, c, e, -⟩ := h; exact ⟨a, c, e⟩
  have HB0 := Lib.hid (((Below.refl W.heap.size W).alloc (Nat.le_refl _) (.cells #[v] 24)).alloc (by simp) (.cells #[.slice none 0 0] 24))
  have HS := Lib.hid (res_kept (W := W) (o := .cells #[v] 24) (x := .slice none 0 0) (t := 24) (Below.refl _ _)).1
  have bad : ∀ E : Int, E ≠ 0 → giveE l lock who = E → giveL l lock who = [] := fun E h1 h2 => by unfold giveL; rw [if_neg (by rw [h2]; exact h1)]
  by_cases h0 : lock < 0
  · have hA : isL l lock = false ∨ who < 0 := .inl (isL_neg h0)
    rw [bad 1 (by decide) (giveE_arg hA), giveE_arg hA]
    have hd : decide (lock < 0) = true := decide_eq_true h0
    subst hv0
    clear bad hA h h0
    go_enter Try.func14, Try.ntmps14
    go_wp2
    exact bodyPost_ret (v := .tuple #[.agg #[.slice none 0 0], .int .i64 1]) (by simp [results, Try.results14, go_sem, HS.out]) rfl (took_err 1 HB0.out _ rfl)
  · obtain ⟨k, rfl⟩ : ∃ k : Nat, lock = k := ⟨lock.toNat, by omega⟩
    have hd0 : decide ((k : Int) < 0) = false := decide_eq_false (by omega)
    by_cases hk : k < l.length
    · have hd1 : decide ((k : Int) ≥ (l.length : Int)) = false := decide_eq_false (by omega)
      have hd2 : decide (l.length ≤ k) = false := decide_eq_false (by omega)
      by_cases hw0 : who < 0
      · have hA : isL l k = false ∨ who < 0 := .inr hw0
        rw [bad 1 (by decide) (giveE_arg hA), giveE_arg hA]
        have hd : decide (who < 0) = true := decide_eq_true hw0
        subst hv0
        clear bad hA h hw0
        go_enter Try.func14, Try.ntmps14
        go_wp2
        exact bodyPost_ret (v := .tuple #[.agg #[.slice none 0 0], .int .i64 1]) (by simp [results, Try.results14, go_sem, HS.out]) rfl (took_err 1 HB0.out _ rfl)
      · have hw : 0 ≤ who := by omega
        have hd : decide (who < 0) = false := decide_eq_false (by omega)
        rcases h.parts with ⟨h0, -⟩ | ⟨-, -, b, off, cap, rfl, hbl, hc⟩
        · rw [h0] at hk; simp at hk
        have hc1 := up2 (o := .cells #[.slice (some ⟨b, off, none⟩) l.length cap] 24) (p := .cells #[.slice none 0 0] 24) (hc k hk)
        obtain ⟨x, hx⟩ : ∃ x, l.getD k 0 = x := ⟨_, rfl⟩
        rw [hx] at hc1
        have HT := giveE_at hk hw
        rw [hx] at HT
        clear hc h hx hv0 hw0 h0
        by_cases h1 : x ≠ who
        · rw [if_pos h1] at HT
          rw [bad 4 (by decide) HT, HT]
          have hd3 : (x != who) = true := by simp [h1]
          have hd4 : (x == who) = false := by simp [h1]
          clear bad HT
          go_enter Try.func14, Try.ntmps14
          go_wp2
          exact bodyPost_ret (v := .tuple #[.agg #[.slice none 0 0], .int .i64 4]) (by simp [results, Try.results14, go_sem, HS.out]) rfl (took_err 4 HB0.out _ rfl)
        · rw [if_neg h1] at HT
          have h1 : x = who := Decidable.not_not.1 h1
          have hd3 : (who != who) = false := by simp
          have HL : giveL l k who = l.set k (-1) := by unfold giveL; rw [if_pos HT]; rfl
          rw [HL, HT]
          subst h1
          clear bad HT HL
          go_enter Try.func14, Try.ntmps14
          go_wp2_with fail
          refine (rput_any (HN.out.below HB0.out) hl hk (-1)).mono ?_
          rintro e w2 ⟨⟨v', rfl, hO⟩, hb⟩
          obtain ⟨hr4, hr5⟩ := res_kept hb
          obtain ⟨g, cap2, rfl, hg1, hg2⟩ := World.ownsRow.form hO (by simp; omega)
          rw [List.length_set] at hO ⊢
          have HO := Lib.hid hO
          have HB2 : Hid (Below W.heap.size W w2) := Lib.hid (bOn HB0.out hb)
          have HS := Lib.hid (World.cell?_setCell_same' w2 ⟨W.heap.size + 1, 0, none⟩ (.slice (some ⟨g, 0, none⟩) l.length cap2) (by rw [hr4]; rfl))
          have HG : Hid (g ≠ W.heap.size + 1 ∧ W.heap.size ≤ g) := Lib.hid (by simp at hg1; omega)
          clear hO hb hg1 hg2
          go_wp2
          refine bodyPost_ret (v := .tuple #[.agg #[.slice (some ⟨g, 0, none⟩) l.length cap2], .int .i64 0]) (by simp [results, Try.results14, go_sem, HS.out]) rfl ⟨⟨_, rfl, ?_⟩, HB2.out.setCell (by show W.heap.size ≤ W.heap.size + 1; omega) _⟩
          exact ((HO.out.mono (by simp; omega)).other (by simpa [Value.ownBlock] using HG.out.1))
    · have hA : isL l k = false ∨ who < 0 := .inl (isL_ge (by omega))
      rw [bad 1 (by decide) (giveE_arg hA), giveE_arg hA]
      have hd1 : decide ((k : Int) ≥ (l.length : Int)) = true := decide_eq_true (by omega)
      have hd2 : decide (l.length ≤ k) = true := decide_eq_true (by omega)
      subst hv0
      clear bad hA h h0 hk
      go_enter Try.func14, Try.ntmps14
      go_wp2
      exact bodyPost_ret (v := .tuple #[.agg #[.slice none 0 0], .int .i64 1]) (by simp [results, Try.results14, go_sem, HS.out]) rfl (took_err 1 HB0.out _ rfl)

theorem own_shape0 {k : IntKind} {w : World} {B : Nat} {e : TypeId} {v : Value} {zs : List Int} (h : Own k w B e v zs) : ∃ a cap, v = .slice a zs.length cap := by
  obtain ⟨hl, hr⟩ := h
  rcases hr with ⟨rfl, h1⟩ | ⟨g, cap, cur, rfl, _⟩
  · exact ⟨none, 0, by rw [h1]⟩
  · exact ⟨_, _, rfl⟩
/-- What lies where, on the way to new locks. -/
structure Nw (W wr : World) (v : Value) (i : Nat) : Prop where
  c : wr.cell? ⟨W.heap.size + 1, 0, none⟩ = some v ∧ wr.frozen? ⟨W.heap.size + 1, 0, none⟩ = false
  r : wr.cell? ⟨W.heap.size, 0, none⟩ = some (.slice none 0 0) ∧ wr.frozen? ⟨W.heap.size, 0, none⟩ = false
  o : Own .i64 wr (W.heap.size + 2) 3 v (List.replicate i (-1))
  b : Below W.heap.size W wr
  s : W.heap.size + 2 ≤ wr.heap.size

set_option maxHeartbeats 1000000 in
set_option maxRecDepth 100000 in
theorem rnew_any (n : Int) (W : World) : Calls Try.prog 16 #[.int .i64 n] W (Took W (newE n) (newL n)) := by
  by_cases hn : n < 0 ∨ 65 < n
  · have HE : newE n = 1 := by unfold newE; rw [if_pos hn]
    have HL : newL n = [] := by unfold newL; rw [if_neg (by rw [HE]; decide)]
    rw [HL, HE]
    have HS := Lib.hid (at_new W (.slice none 0 0) 24).1
    by_cases h0 : n < 0
    · have hd : decide (n < 0) = true := decide_eq_true h0
      clear hn HE HL h0
      go_enter Try.func16, Try.ntmps16
      go_wp2
      exact bodyPost_ret (v := .tuple #[.agg #[.slice none 0 0], .int .i64 1]) (by simp [results, Try.results16, go_sem, HS.out]) rfl (took_err 1 ((Below.refl _ _).alloc (Nat.le_refl _) _) _ rfl)
    · have hd : decide (n < 0) = false := decide_eq_false h0
      have hd2 : decide (n > 65) = true := decide_eq_true (by omega)
      clear hn HE HL
      go_enter Try.func16, Try.ntmps16
      go_wp2
      exact bodyPost_ret (v := .tuple #[.agg #[.slice none 0 0], .int .i64 1]) (by simp [results, Try.results16, go_sem, HS.out]) rfl (took_err 1 ((Below.refl _ _).alloc (Nat.le_refl _) _) _ rfl)
  · obtain ⟨k, rfl⟩ : ∃ k : Nat, n = k := ⟨n.toNat, by omega⟩
    have HE : newE (k : Int) = 0 := by unfold newE; rw [if_neg hn]
    have HL : newL (k : Int) = List.replicate k (-1) := by unfold newL; rw [if_pos HE]; simp
    rw [HL, HE]
    have hk : k ≤ 65 := by omega
    have hk0 : (0 : Int) ≤ k := by omega
    have hk64 : ¬ (k : Int) > 65 := by omega
    have HW : Hid (Nw W ((W.alloc (.cells #[.slice none 0 0] 24)).alloc (.cells #[.slice none 0 0] 24)) (.slice none 0 0) 0) := Lib.hid (by
      have h1 := res_kept (W := W) (o := .cells #[.slice none 0 0] 24) (x := .slice none 0 0) (t := 24) (Below.refl _ _)
      have h2 := at_new W (.slice none 0 0) 24
      have hb : Below (W.heap.size + 1) (W.alloc (.cells #[.slice none 0 0] 24)) ((W.alloc (.cells #[.slice none 0 0] 24)).alloc (.cells #[.slice none 0 0] 24)) := (Below.refl _ _).alloc (by simp) _
      exact ⟨h1, cell_kept hb (show W.heap.size < W.heap.size + 1 by omega) h2.1 h2.2, Own.nil _ _ _ _, ((Below.refl _ _).alloc (Nat.le_refl _) _).alloc (by simp) _, by simp⟩)
    clear hn HE HL
    go_enter Try.func16, Try.ntmps16
    go_wp2
    generalize (W.alloc (.cells #[.slice none 0 0] 24)).alloc (.cells #[.slice none 0 0] 24) = w2 at HW ⊢
    go_loopw [5] (fun u wr => ∃ i : Nat, i ≤ k ∧ u = .int .i64 i ∧ Hid (∃ v, Nw W wr v i)) (fun u _ => k - (intOf u).toNat)
    case atStart => exact ⟨0, by omega, rfl, Lib.hid ⟨_, HW.out⟩⟩
    case round =>
      obtain ⟨i, hi, rfl, HR⟩ := hrel
      obtain ⟨v, hN⟩ := HR.out
      have HN := Lib.hid hN
      obtain ⟨hc, hf⟩ := hN.c
      by_cases hlt : i < k
      · have HI1 := Lib.hid (ints_new (k := .i64) wr 3 [(-1 : Int)] (by simp [maxLen]) (by decide))
        have HSN : Hid (List.replicate i (-1 : Int) ++ [(-1 : Int)] = List.replicate (i + 1) (-1)) := Lib.hid (by rw [List.replicate_succ'])
        have hca := (cell_kept (B := W.heap.size + 2) ((Below.refl _ wr).alloc hN.s (.cells #[.int .i64 (-1)] 3)) (show W.heap.size + 1 < W.heap.size + 2 by omega) hc hf).1
        clear HR hN HW
        go_wp2_with (at_builtin; refine wpList_append_ints (k := .i64) (bytes := 8) rfl (.tmp 19) (.tmp 20) 22 rfl (W.heap.size + 2) 3 Try.underlying22 ints_info (by decide) (List.replicate i (-1)) [(-1 : Int)] (HN.out.o.alloc _) HI1.out (by simp only [List.length_replicate, List.length_cons, List.length_nil]; omega) (by have := HN.out.s; simp; omega) ?_; intro v3 w3 hO3 hb3; have HB3 := Lib.hid (((Below.refl (W.heap.size + 2) wr).alloc HN.out.s (.cells #[.int .i64 (-1)] 3)).trans hb3); obtain ⟨hc3, hf3⟩ := cell_kept HB3.out (show W.heap.size + 1 < W.heap.size + 2 by omega) HN.out.c.1 HN.out.c.2; rw [HSN.out] at hO3; have HO3 := Lib.hid hO3; obtain ⟨a3, c3, e3⟩ := own_shape0 hO3; clear hO3 hb3; generalize (List.replicate (i + 1) (-1 : Int)).length = n3 at e3; subst e3)
        have HF : Hid (Nw W (w3.setCell ⟨W.heap.size + 1, 0, none⟩ (.slice a3 n3 c3)) (.slice a3 n3 c3) (i + 1)) := Lib.hid (by
          obtain ⟨hr3, hg3⟩ := cell_kept HB3.out (show W.heap.size < W.heap.size + 2 by omega) HN.out.r.1 HN.out.r.2
          refine ⟨⟨World.cell?_setCell_same' _ _ _ (by rw [hc3]; rfl), by rw [World.frozen?_setCell]; exact hf3⟩, ⟨by rw [cell_far (by show W.heap.size ≠ W.heap.size + 1; omega)]; exact hr3, by rw [World.frozen?_setCell]; exact hg3⟩, ?_, ((HN.out.b.trans (HB3.out.mono (by omega))).setCell (by show W.heap.size ≤ W.heap.size + 1; omega) _), ?_⟩
          · exact ownsRow_setCell_below HO3.out (show W.heap.size + 1 < W.heap.size + 2 by omega) _
          · have h1 := HN.out.s
            have h2 := HB3.out.size
            simp only [World.setCell, Array.size_modify]; omega)
        clear hc hf hca hc3 hf3
        go_wp2
        exact ⟨⟨i + 1, by omega, by go_num, Lib.hid ⟨_, HF.out⟩⟩, by simp [intOf]; omega⟩
      · obtain rfl : i = k := by omega
        obtain ⟨a3, c3, e3⟩ := own_shape0 hN.o
        generalize (List.replicate i (-1 : Int)).length = n3 at e3
        subst e3
        obtain ⟨hr, hg⟩ := hN.r
        have HS := Lib.hid (World.cell?_setCell_same' wr ⟨W.heap.size, 0, none⟩ (.slice a3 n3 c3) (by rw [hr]; rfl))
        clear HR hN HW
        go_wp2
        refine bodyPost_ret (v := .tuple #[.agg #[.slice a3 n3 c3], .int .i64 0]) (by simp [results, Try.results16, go_sem, HS.out]) rfl ⟨⟨_, rfl, ?_⟩, HN.out.b.setCell (Nat.le_refl _) _⟩
        have h9 : Own .i64 (wr.setCell ⟨W.heap.size, 0, none⟩ (.slice a3 n3 c3)) (W.heap.size + 2) 3 (.slice a3 n3 c3) (List.replicate i (-1)) := ownsRow_setCell_below HN.out.o (show (⟨W.heap.size, 0, none⟩ : Addr).block < W.heap.size + 2 by show W.heap.size < W.heap.size + 2; omega) _
        exact h9.mono (by omega)
end Go.Proofs.Ythbabhmpkniliaa
