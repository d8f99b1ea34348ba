/-
  Contracts of layer 6's Unpack and Put, of every argument in its kind's bounds.
-/
import Derived.Test.YtjikabalpejmlaaDoorPkB
namespace Go.Proofs.YtjikabalpejmlaaDoor
open Go.RowKit Go.Joins Pk

/-- The block b holds a state. -/
def St (W : World) (n : Nat) (k c : Int) (b : Bool) (s g : Int) : Prop := W.heap[n]? = some (.cells #[.int .i64 k, .int .i64 c, .bool b, .int .i64 s, .int .i64 g] 79 (0, 0))
theorem St.below {W W' : World} {B n : Nat} {k c : Int} {b : Bool} {s g : Int} (h : St W n k c b s g) (hb : Below B W W') (hn : n < B) : St W' n k c b s g := (hb.block n hn).trans h
theorem St.lt {W : World} {n : Nat} {k c : Int} {b : Bool} {s g : Int} (h : St W n k c b s g) : n < W.heap.size := by
  unfold St at h
  exact (Array.getElem?_eq_some_iff.1 h).1
theorem St.all {W : World} {n : Nat} {k c : Int} {b : Bool} {s g : Int} (h : St W n k c b s g) :
    (W.cell? ⟨n, 0, none⟩ = some (.int .i64 k) ∧ W.cell? ⟨n, 1, none⟩ = some (.int .i64 c) ∧ W.cell? ⟨n, 2, none⟩ = some (.bool b) ∧ W.cell? ⟨n, 3, none⟩ = some (.int .i64 s) ∧ W.cell? ⟨n, 4, none⟩ = some (.int .i64 g)) ∧
    (W.frozen? ⟨n, 0, none⟩ = false ∧ W.frozen? ⟨n, 1, none⟩ = false ∧ W.frozen? ⟨n, 2, none⟩ = false ∧ W.frozen? ⟨n, 3, none⟩ = false ∧ W.frozen? ⟨n, 4, none⟩ = false) ∧ n < W.heap.size :=
  ⟨⟨by simpa using cell_of_block h 0, by simpa using cell_of_block h 1, by simpa using cell_of_block h 2, by simpa using cell_of_block h 3, by simpa using cell_of_block h 4⟩, ⟨unfrozen_of_block h 0, unfrozen_of_block h 1, unfrozen_of_block h 2, unfrozen_of_block h 3, unfrozen_of_block h 4⟩, h.lt⟩
theorem St.new (W : World) (k c : Int) (b : Bool) (s g : Int) : St (W.alloc (.cells #[.int .i64 k, .int .i64 c, .bool b, .int .i64 s, .int .i64 g] 79)) W.heap.size k c b s g := by
  unfold St World.alloc; simp

theorem bn_ne (w : Int) : (Bn w != 0) = B w := by
  unfold Bn B
  by_cases h : w / 512 % 2 = 1
  · rw [h]; rfl
  · have : w / 512 % 2 = 0 := by omega
    rw [this]; rfl

set_option maxHeartbeats 4000000 in
theorem unpack_any (w : Int) (hw : U w) (W : World) (hT : Tab W) :
    Calls Tryd.prog 61 #[.int .u64 w] W fun e w' => e = .returned (.tuple #[.agg #[.int .i64 (uK w), .int .i64 (uC w), .bool (uB w), .int .i64 (uS w), .int .i64 (uG w)], .int .i64 (uE w)]) ∧ Below W.heap.size W w' := by
  have HU := Lib.hid hw
  have HT := Lib.hid hT
  have HI := Lib.hid (isW_iff (w := w))
  have hbn := bn_ne w
  clear hT hw
  go_enter Tryd.func61, Tryd.ntmps61
  go_wp2_with fail
  refine (kind_any w HU.out _ (HT.out.below (by go_grown))).mono ?_
  rintro e' w_h1 ⟨rfl, h1⟩
  have H1 := Lib.hid (bOn (by go_grown) h1 : Below W.heap.size W w_h1)
  have HS1 := Lib.hid ((St.new W 0 0 false 0 0).below h1 (by simp))
  clear h1
  go_wp2_with fail
  refine (cpu_any w HU.out _ (HT.out.below H1.out)).mono ?_
  rintro e' w_h2 ⟨rfl, h2⟩
  have H2 := Lib.hid (bOn H1.out h2)
  have HS2 := Lib.hid (HS1.out.below h2 HS1.out.lt)
  clear h2 H1 HS1
  go_wp2_with fail
  refine (readB w HU.out _ (HT.out.below H2.out)).mono ?_
  rintro e' w_h3 ⟨rfl, h3⟩
  have H3 := Lib.hid (bOn H2.out h3)
  have HS3 := Lib.hid (HS2.out.below h3 HS2.out.lt)
  clear h3 H2 HS2
  go_wp2_with fail
  refine (readS w HU.out _ (HT.out.below H3.out)).mono ?_
  rintro e' w_h4 ⟨rfl, h4⟩
  have H4 := Lib.hid (bOn H3.out h4)
  have HS4 := Lib.hid (HS3.out.below h4 HS3.out.lt)
  clear h4 H3 HS3
  go_wp2_with fail
  refine (gen_any w HU.out _ (HT.out.below H4.out)).mono ?_
  rintro e' w_h5 ⟨rfl, h5⟩
  have H5 := Lib.hid (bOn H4.out h5)
  have HS5 := Lib.hid (HS4.out.below h5 HS4.out.lt)
  clear h5 H4 HS4
  generalize Bn w = bn at *
  go_wp2_with fail
  refine (pack_any (K w) (C w) (B w) (S w) (G w) _ (HT.out.below (bOn H5.out (by go_grown)))).mono ?_
  rintro e' w_h6 ⟨rfl, h6⟩
  have HX6 := Lib.hid ((St.new w_h5 (K w) (C w) (B w) (S w) (G w)).below h6 (by simp))
  have HS6 := Lib.hid ((HS5.out.below (Below.alloc (Below.refl w_h5.heap.size w_h5) (Nat.le_refl _) (.cells #[.int .i64 (K w), .int .i64 (C w), .bool (B w), .int .i64 (S w), .int .i64 (G w)] 79)) HS5.out.lt).below h6 (by have := HS5.out.lt; simp; omega))
  have H6 := Lib.hid (bOn H5.out (bOn (by go_grown) h6) : Below W.heap.size W w_h6)
  have hne : w_h5.heap.size ≠ W.heap.size := by have := HS5.out.lt; omega
  have hne' : W.heap.size ≠ w_h5.heap.size := hne.symm
  clear h6 H5 HS5 HT HU hbn
  obtain ⟨⟨x0, x1, x2, x3, x4⟩, -, hx⟩ := HX6.out.all
  obtain ⟨⟨q0, q1, q2, q3, q4⟩, ⟨z0, z1, z2, z3, z4⟩, hq⟩ := HS6.out.all
  by_cases h : isW w
  · have HE := Lib.hid (un_yes h)
    have p := HI.out.1 h
    rw [p.1, p.2]
    clear p h HI
    generalize K w = k at *
    generalize C w = c at *
    generalize B w = b at *
    generalize S w = s at *
    generalize G w = g at *
    have hww : (w != w) = false := by simp
    go_wp2
    refine bodyPost_ret (v := .tuple #[.agg #[.int .i64 k, .int .i64 c, .bool b, .int .i64 s, .int .i64 g], .int .i64 0]) (by simp [results, Tryd.results61, go_sem, q0, q1, q2, q3, q4]) rfl ?_
    obtain ⟨e1, e2, e3, e4, e5, e6⟩ := HE.out
    exact ⟨by rw [e1, e2, e3, e4, e5, e6], by have hB := H6.out; go_grown⟩
  · have HE := Lib.hid (un_no h)
    have p := fun q => h (HI.out.2 q)
    clear h HI
    generalize pkW (K w) (C w) (B w) (S w) (G w) = v at *
    generalize pkE (K w) (C w) (B w) (S w) (G w) = e at *
    generalize K w = k at *
    generalize C w = c at *
    generalize B w = b at *
    generalize S w = s at *
    generalize G w = g at *
    by_cases he : e = 0
    · have hv : (v != w) = true := by simp only [bne_iff_ne]; exact fun q => p ⟨he, q⟩
      subst he
      clear p
      go_wp2
      refine bodyPost_ret (v := .tuple #[.agg #[.int .i64 0, .int .i64 0, .bool false, .int .i64 0, .int .i64 0], .int .i64 1]) (by simp [results, Tryd.results61, go_sem, q0, q1, q2, q3, q4]) rfl ?_
      obtain ⟨e1, e2, e3, e4, e5, e6⟩ := HE.out
      exact ⟨by rw [e1, e2, e3, e4, e5, e6], by have hB := H6.out; go_grown⟩
    · have hv : (e != 0) = true := by simpa using he
      clear p
      go_wp2
      refine bodyPost_ret (v := .tuple #[.agg #[.int .i64 0, .int .i64 0, .bool false, .int .i64 0, .int .i64 0], .int .i64 1]) (by simp [results, Tryd.results61, go_sem, q0, q1, q2, q3, q4]) rfl ?_
      obtain ⟨e1, e2, e3, e4, e5, e6⟩ := HE.out
      exact ⟨by rw [e1, e2, e3, e4, e5, e6], by have hB := H6.out; go_grown⟩

end Go.Proofs.YtjikabalpejmlaaDoor
