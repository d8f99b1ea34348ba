/-
  Contract of key.First: the first of all, or nothing.
-/
import Derived.Test.YtpmknpdnhfnfcaaGreatDoorKyA
import Derived.Shelf.SlSortCmp.QuietGrown
namespace Go.Proofs.YtpmknpdnhfnfcaaGreatDoor
open Go.RowKit Go.Sort Wd Tn Ky

/-- The block n holds a key. -/
def Kb (w : World) (n : Nat) (k : K) : Prop := w.heap[n]? = some (.cells #[.int .u64 k.1, .int .i64 k.2] 57 (0, 0))
theorem Kb.below {W W' : World} {B n : Nat} {k : K} (h : Kb W n k) (hb : Below B W W') (hn : n < B) : Kb W' n k := (hb.block n hn).trans h
theorem Kb.lt {W : World} {n : Nat} {k : K} (h : Kb W n k) : n < W.heap.size := (Array.getElem?_eq_some_iff.1 h).1
theorem Kb.all {W : World} {n : Nat} {k : K} (h : Kb W n k) : W.cell? ⟨n, 0, none⟩ = some (.int .u64 k.1) ∧ W.cell? ⟨n, 1, none⟩ = some (.int .i64 k.2) ∧ W.frozen? ⟨n, 0, none⟩ = false ∧ W.frozen? ⟨n, 1, none⟩ = false ∧ n < W.heap.size :=
  ⟨by simp [World.cell?, show W.heap[n]? = _ from h], by simp [World.cell?, show W.heap[n]? = _ from h], by simp [World.frozen?, show W.heap[n]? = _ from h], by simp [World.frozen?, show W.heap[n]? = _ from h], h.lt⟩
theorem Kb.new (W : World) (k : K) : Kb (W.alloc (.cells #[.int .u64 k.1, .int .i64 k.2] 57)) W.heap.size k := by
  unfold Kb World.alloc; simp
theorem Kb.gr {W W' : World} {n : Nat} {k : K} (h : Kb W n k) (hg : Gr W W') : Kb W' n k := h.below hg.below h.lt
/-- Another key is stored over it. -/
theorem Kb.store {W : World} {n : Nat} {k : K} (h : Kb W n k) (x : K) : Kb ((W.setCell ⟨n, 0, none⟩ (.int .u64 x.1)).setCell ⟨n, 1, none⟩ (.int .i64 x.2)) n x := by
  unfold Kb at h ⊢
  simp only [World.setCell, Array.getElem?_modify, if_true, h]
  rfl
theorem Kb.other {W : World} {n q o : Nat} {k : K} {v : Value} (h : Kb W n k) (hne : n ≠ q) : Kb (W.setCell ⟨q, o, none⟩ v) n k := by
  unfold Kb at h ⊢
  rw [Below.heap_setCell _ _ _ _ (by simpa using hne)]
  exact h

set_option maxRecDepth 100000 in
theorem first_none (m : Int) (a : Option Addr) (cap : Nat) (W : World) :
    Calls Tryz.prog 106 #[.int .u64 m, .slice a 0 cap] W fun e w' => e = .returned (.tuple #[.agg #[.int .u64 0, .int .i64 0], .bool false]) ∧ Below W.heap.size W w' := by
  go_enter Tryz.func106, Tryz.ntmps106
  go_wp2
  exact bodyPost_ret (v := .tuple #[.agg #[.int .u64 0, .int .i64 0], .bool false]) (by simp [results, Tryz.results106, go_sem]) rfl ⟨rfl, (Below.refl _ _).alloc (Nat.le_refl _) _⟩

set_option maxHeartbeats 400000 in
set_option maxRecDepth 100000 in
theorem first_some (m : Int) {l : List K} {W : World} {b off cap : Nat} (hp : 0 < l.length) (hl : l.length ≤ 1000) (hcap : l.length ≤ cap ∧ cap ≤ maxLen) (hb : b < W.heap.size)
    (hc : ∀ i, i < l.length → W.cell? ⟨b, off + i * 2, none⟩ = some (.int .u64 (l.getD i (0, 0)).1) ∧ W.cell? ⟨b, off + i * 2 + 1, none⟩ = some (.int .i64 (l.getD i (0, 0)).2)) :
    Calls Tryz.prog 106 #[.int .u64 m, .slice (some ⟨b, off, none⟩) l.length cap] W fun e w' => e = .returned (.tuple #[.agg #[.int .u64 (firstK m l).1, .int .i64 (firstK m l).2], .bool true]) ∧ Below W.heap.size W w' := by
  have c := hc 0 hp
  obtain ⟨z, hz⟩ : ∃ z, firstK m l = z := ⟨_, rfl⟩
  rw [hz]
  obtain ⟨x0, hx0⟩ : ∃ x, l.getD 0 (0, 0) = x := ⟨_, rfl⟩
  rw [hx0] at c
  have c0 := c.1
  have c1 := c.2
  rw [Nat.zero_mul, Nat.add_zero] at c0 c1
  have d0 := (Gr.alloc W (.cells #[.int .u64 0, .int .i64 0] 57)).cell c0
  have d1 := (Gr.alloc W (.cells #[.int .u64 0, .int .i64 0] 57)).cell c1
  have hne : ((l.length : Int) == 0) = false := by rw [beq_eq_false_iff_ne]; omega
  have HC := Lib.hid hc
  have HF : Hid (fstK m x0 (l.tail.take (l.length - 1)) = z) := Lib.hid (by
    rw [← hz]
    unfold firstK
    rw [List.take_of_length_le (by simp), ← hx0]
    cases l with
    | nil => simp at hp
    | cons a t => rfl)
  have HT : Hid (∀ k, k < l.length - 1 → l.tail.take (k + 1) = l.tail.take k ++ [l.getD (k + 1) (0, 0)]) := Lib.hid (fun k hk => by
    rw [List.take_add_one]
    simp [List.getD, show k + 1 < l.length by omega])
  clear hc c c0 c1 hx0 hz
  unfold maxLen at hcap
  by_cases hcp : cap = 1
  · have hl1 : l.length = 1 := by omega
    obtain rfl : x0 = z := by
      have := HF.out
      rw [hl1] at this
      exact this
    rw [hl1]
    go_enter Tryz.func106, Tryz.ntmps106
    go_wp2
    refine wp_loop_rounds 1 ?_
    rw [rounds_succ]
    go_wp2
    exact bodyPost_ret (v := .tuple #[.agg #[.int .u64 x0.1, .int .i64 x0.2], .bool true]) (by simp [results, Tryz.results106, go_sem]) rfl ⟨rfl, ((Below.refl _ _).alloc (Nat.le_refl _) _).alloc (by simp) _⟩
  · go_enter Tryz.func106, Tryz.ntmps106
    go_wp2
    go_loopw [19] (fun i wr => ∃ k : Nat, k ≤ l.length - 1 ∧ i = .int .i64 k ∧ Hid (Kb wr (W.heap.size + 1) (fstK m x0 (l.tail.take k)) ∧ Kb wr W.heap.size (0, 0) ∧ Below W.heap.size W wr)) (fun i _ => l.length - 1 - (intOf i).toNat)
    case atStart =>
      refine ⟨0, by omega, rfl, Lib.hid ⟨?_, ?_, ((Below.refl _ _).alloc (Nat.le_refl _) _).alloc (by simp) _⟩⟩
      · have h := Kb.new (W.alloc (.cells #[.int .u64 0, .int .i64 0] 57)) x0
        rw [show (W.alloc (.cells #[.int .u64 0, .int .i64 0] 57)).heap.size = W.heap.size + 1 by simp] at h
        exact h
      · exact (Kb.new W (0, 0)).gr (Gr.alloc _ _)
    case round =>
      obtain ⟨k, hk, rfl, HR⟩ := hrel
      by_cases hlt : k < l.length - 1
      · obtain ⟨x, hx⟩ : ∃ x, l.getD (k + 1) (0, 0) = x := ⟨_, rfl⟩
        obtain ⟨y, hy⟩ : ∃ y, fstK m x0 (l.tail.take k) = y := ⟨_, rfl⟩
        have c := HC.out (k + 1) (by omega)
        rw [hx] at c
        have hr := HR.out
        rw [hy] at hr
        have f0 : wr.cell? ⟨b, off + 2 + k * 2, none⟩ = some (.int .u64 x.1) := by
          rw [show off + 2 + k * 2 = off + (k + 1) * 2 by omega]
          exact (hr.2.2.cell (p := ⟨b, off + (k + 1) * 2, none⟩) hb).trans c.1
        have f1 : wr.cell? ⟨b, off + 2 + k * 2 + 1, none⟩ = some (.int .i64 x.2) := by
          rw [show off + 2 + k * 2 + 1 = off + (k + 1) * 2 + 1 by omega]
          exact (hr.2.2.cell (p := ⟨b, off + (k + 1) * 2 + 1, none⟩) hb).trans c.2
        have HN := Lib.hid (by rw [HT.out k hlt, fstK_more, hy, hx] : fstK m x0 (l.tail.take (k + 1)) = if ltK m x y = true then x else y)
        obtain ⟨g0, g1, g2, g3, g4⟩ := (hr.1.gr (Gr.alloc wr (.cells #[.int .u64 x.1, .int .i64 x.2] 57))).all
        obtain ⟨b0, b1, -, -, -⟩ := (Kb.new wr x).all
        have HG : Hid (∀ w', Gr (wr.alloc (.cells #[.int .u64 x.1, .int .i64 x.2] 57)) w' → Kb w' (W.heap.size + 1) y ∧ Kb w' W.heap.size (0, 0) ∧ Kb w' wr.heap.size x ∧ Below W.heap.size W w') := Lib.hid (fun w' hg =>
          ⟨(hr.1.gr (Gr.alloc _ _)).gr hg, (hr.2.1.gr (Gr.alloc _ _)).gr hg, (Kb.new wr x).gr hg, bOn hr.2.2 ((Gr.alloc _ _).trans hg).below⟩)
        clear hx hy c hr
        cases hxy : ltK m x y with
        | true =>
          have HXY := Lib.hid hxy
          clear hxy
          go_wp2_with fail
          refine (less_gr m x y _).mono ?_
          rintro e' w1 ⟨rfl, hg1⟩
          rw [HXY.out]
          obtain ⟨k1, k2, k3, k4⟩ := HG.out w1 hg1
          obtain ⟨p0, p1, p2, p3, -⟩ := k1.all
          obtain ⟨q0, q1, -, -, -⟩ := k3.all
          have HK := Lib.hid (show Kb ((w1.setCell ⟨W.heap.size + 1, 0, none⟩ (.int .u64 x.1)).setCell ⟨W.heap.size + 1, 1, none⟩ (.int .i64 x.2)) (W.heap.size + 1) x ∧ Kb ((w1.setCell ⟨W.heap.size + 1, 0, none⟩ (.int .u64 x.1)).setCell ⟨W.heap.size + 1, 1, none⟩ (.int .i64 x.2)) W.heap.size (0, 0) ∧ Below W.heap.size W ((w1.setCell ⟨W.heap.size + 1, 0, none⟩ (.int .u64 x.1)).setCell ⟨W.heap.size + 1, 1, none⟩ (.int .i64 x.2)) from
            ⟨k1.store x, (k2.other (by omega)).other (by omega), (k4.setCell (by show W.heap.size ≤ W.heap.size + 1; omega) _).setCell (by show W.heap.size ≤ W.heap.size + 1; omega) _⟩)
          clear k1 k2 k3 k4 hg1
          go_wp2
          refine ⟨⟨k + 1, by omega, by go_num, Lib.hid ?_⟩, by simp [intOf]; omega⟩
          rw [HN.out, HXY.out, if_pos rfl]
          exact HK.out
        | false =>
          have HXY := Lib.hid hxy
          clear hxy
          go_wp2_with fail
          refine (less_gr m x y _).mono ?_
          rintro e' w1 ⟨rfl, hg1⟩
          rw [HXY.out]
          have HK := Lib.hid (HG.out w1 hg1)
          clear hg1
          go_wp2
          refine ⟨⟨k + 1, by omega, by go_num, Lib.hid ?_⟩, by simp [intOf]; omega⟩
          rw [HN.out, HXY.out, if_neg (by decide)]
          exact ⟨HK.out.1, HK.out.2.1, HK.out.2.2.2⟩
      · obtain rfl : k = l.length - 1 := by omega
        have hr := HR.out
        rw [HF.out] at hr
        obtain ⟨g0, g1, -, -, -⟩ := hr.1.all
        obtain ⟨r0, r1, r2, r3, -⟩ := hr.2.1.all
        have HS := Lib.hid ((hr.2.1.store z).all)
        have HB := Lib.hid ((hr.2.2.setCell (p := ⟨W.heap.size, 0, none⟩) (Nat.le_refl _) (.int .u64 z.1)).setCell (p := ⟨W.heap.size, 1, none⟩) (Nat.le_refl _) (.int .i64 z.2))
        clear hr
        go_wp2
        obtain ⟨s0, s1, -, -, -⟩ := HS.out
        exact bodyPost_ret (v := .tuple #[.agg #[.int .u64 z.1, .int .i64 z.2], .bool true]) (by simp [results, Tryz.results106, go_sem, s0, s1]) rfl ⟨rfl, HB.out⟩

/-- What First tells. -/
def firstB (l : List K) : Bool := !l.isEmpty
set_option maxRecDepth 100000 in
theorem first_any (m : Int) {W : World} {v : Value} {l : List K} (h : Keys W v l) (hl : l.length ≤ 1000) :
    Calls Tryz.prog 106 #[.int .u64 m, v] W fun e w' => e = .returned (.tuple #[.agg #[.int .u64 (firstK m l).1, .int .i64 (firstK m l).2], .bool (firstB l)]) ∧ Below W.heap.size W w' := by
  rcases h.parts with ⟨rfl, a, cap, rfl⟩ | ⟨hp, b, off, cap, rfl, hcap, hb, hc⟩
  · exact first_none m a cap W
  · have : firstB l = true := by
      cases l with
      | nil => simp at hp
      | cons a t => rfl
    rw [this]
    exact first_some m hp hl hcap hb hc
end Go.Proofs.YtpmknpdnhfnfcaaGreatDoor
