/-
  A table that comes in, with a handle and numbers, as one struct.
-/
import Derived.Test.YtjikabalpejmlaaDoorTlB
import Derived.Test.YtjikabalpejmlaaDoorAggS
namespace Go.Proofs.YtjikabalpejmlaaDoor
open Go.RowKit Go.ChangeAt Go.ChangeShapes Go.WideShapes Go.Deep Pk
open Mk (V)

theorem task_dec {H : Type} {enc : TypeId × Value → H} {P : Program} {W : World} {b0 : Nat} {held : Bool} {f0 f1 f2 : Field}
    (k0 : P.underlying f0.type = some (.int .i64)) (k1 : P.underlying f1.type = some (.int .u64)) (k2 : P.underlying f2.type = some (.int .i64)) (cs : List Value) (hl : cs.length = 3)
    (h : ∀ (j : Nat) (f : Field) (c : Value), #[f0, f1, f2][j]? = some f → cs[j]? = some c → ∃ m y, DataW.trod enc P W b0 (fun _ => true) held m f.type [c] = some y) : ∃ x, cs = encK.f x ∧ encK.ok x := by
  obtain ⟨a, b, c, rfl⟩ := list3 hl
  obtain ⟨_, _, t0⟩ := h 0 f0 a rfl rfl
  obtain ⟨_, _, t1⟩ := h 1 f1 b rfl rfl
  obtain ⟨_, _, t2⟩ := h 2 f2 c rfl rfl
  obtain ⟨z0, e0, -, w0⟩ := DataW.trod_int k0 t0
  obtain ⟨z1, e1, -, w1⟩ := DataW.trod_int k1 t1
  obtain ⟨z2, e2, -, w2⟩ := DataW.trod_int k2 t2
  obtain rfl := (List.cons.inj e0).1
  obtain rfl := (List.cons.inj e1).1
  obtain rfl := (List.cons.inj e2).1
  obtain ⟨m, rfl, hm⟩ := V_of_wf w1
  have b0 := bounds_i64 w0
  have b1 := bounds_i64 w2
  exact ⟨⟨z0, m, z2⟩, rfl, show -9223372036854775808 ≤ z0 ∧ z0 ≤ 9223372036854775807 by omega, hm, show -9223372036854775808 ≤ z2 ∧ z2 ≤ 9223372036854775807 by omega⟩
theorem list8 {l : List Value} (h : l.length = 8) : ∃ a b c d e f g i, l = [a, b, c, d, e, f, g, i] := by
  match l, h with | [a, b, c, d, e, f, g, i], _ => exact ⟨a, b, c, d, e, f, g, i, rfl⟩

set_option maxRecDepth 100000 in
/-- Two cells that read as a table. -/
theorem table_cells {H : Type} {enc : TypeId × Value → H} {W : World} {b0 : Nat} {held : Bool} {m : Nat} {a b : Value} {y : DataW H × List MemPlace}
    (h : DataW.trod enc Tryd.prog W b0 (fun _ => true) held m 25 [a, b] = some y) : ∃ t, Tv W (.agg #[a, b]) t := by
  obtain ⟨xs, n, -, -, -, hlen, hg⟩ := DataW.trod_struct Tryd.underlying25 h
  have c22 : Tryd.prog.cellsOf 22 = 1 := by kernel_rfl
  have c23 : Tryd.prog.cellsOf 23 = 1 := by kernel_rfl
  have c28 : Tryd.prog.cellsOf 28 = 1 := by kernel_rfl
  have h0 := hg 0 _ rfl
  have h1 := hg 1 _ rfl
  have l0 : xs[0]? = some (xs[0]'(by rw [hlen]; decide)) := List.getElem?_eq_getElem _
  have l1 : xs[1]? = some (xs[1]'(by rw [hlen]; decide)) := List.getElem?_eq_getElem _
  rw [l0] at h0
  rw [l1] at h1
  simp only [List.getElem_toArray, List.getElem_cons_zero, List.getElem_cons_succ, c22, c23, List.drop_zero, List.drop_succ_cons, List.take_succ_cons, List.take_zero] at h0 h1
  obtain ⟨ws, hw⟩ := ints_field Tryd.underlying22 Tryd.underlying28 c28 h0
  obtain ⟨ts, ht⟩ := els_field encK Tryd.underlying23 Tryd.underlying52 (by kernel_rfl) (by kernel_rfl) (task_dec Tryd.underlying3 Tryd.underlying28 Tryd.underlying3) h1
  exact ⟨⟨ws, ts⟩, _, _, rfl, hw, ht⟩
set_option maxRecDepth 100000 in
/-- The whole. -/
theorem tells_arg {H : Type} {enc : TypeId × Value → H} {W : World} {base b0 : Nat} {r : Reach} {held : Bool} {v : Value} {d : DataW H} {p : List MemPlace}
    (hv : Value.okWide Tryd.prog W r base 30 v) (h : DataW.Trod enc Tryd.prog W b0 (fun _ => true) held 30 v d p) :
    ∃ (c0 c1 : Value) (t : Tl.T) (s g c n : Int) (m : Nat) (ev : Int), v = .agg #[c0, c1, .int .i64 s, .int .i64 g, .int .i64 c, .int .i64 n, .int .u64 (m : Int), .int .i64 ev] ∧ Tv W (.agg #[c0, c1]) t ∧ V m ∧ (Lit.int .i64 ev).wf = true := by
  obtain ⟨cs, rfl, hsz⟩ := okWide_struct Tryd.underlying30 hv
  have hc : Tryd.prog.cellsOf 30 = 8 := by kernel_rfl
  rw [hc] at hsz
  obtain ⟨x0, x1, x2, x3, x4, x5, x6, x7, hx⟩ := list8 (l := cs.toList) (by simpa using hsz)
  obtain rfl : cs = #[x0, x1, x2, x3, x4, x5, x6, x7] := by cases cs; simp_all
  obtain ⟨fuel, hf⟩ := h
  obtain ⟨xs, k, -, -, -, hlen, hg⟩ := DataW.trod_struct Tryd.underlying30 hf
  have c25 : Tryd.prog.cellsOf 25 = 2 := by kernel_rfl
  have c27 : Tryd.prog.cellsOf 27 = 2 := by kernel_rfl
  have c3 : Tryd.prog.cellsOf 3 = 1 := by kernel_rfl
  have c28 : Tryd.prog.cellsOf 28 = 1 := by kernel_rfl
  have at' : ∀ j, j < 6 → ∃ y, xs[j]? = some y := fun j hj => ⟨_, List.getElem?_eq_getElem (by rw [hlen]; exact hj)⟩
  have hcs : (Value.cells (.agg #[x0, x1, x2, x3, x4, x5, x6, x7])).toList = [x0, x1, x2, x3, x4, x5, x6, x7] := rfl
  have h0 := hg 0 _ rfl
  have h1 := hg 1 _ rfl
  have h2 := hg 2 _ rfl
  have h3 := hg 3 _ rfl
  have h4 := hg 4 _ rfl
  have h5 := hg 5 _ rfl
  obtain ⟨y0, e0⟩ := at' 0 (by decide)
  obtain ⟨y1, e1⟩ := at' 1 (by decide)
  obtain ⟨y2, e2⟩ := at' 2 (by decide)
  obtain ⟨y3, e3⟩ := at' 3 (by decide)
  obtain ⟨y4, e4⟩ := at' 4 (by decide)
  obtain ⟨y5, e5⟩ := at' 5 (by decide)
  rw [e0, hcs] at h0
  rw [e1, hcs] at h1
  rw [e2, hcs] at h2
  rw [e3, hcs] at h3
  rw [e4, hcs] at h4
  rw [e5, hcs] at h5
  simp only [List.getElem_toArray, List.getElem_cons_zero, List.getElem_cons_succ, c25, c27, c3, c28, List.drop_zero, List.drop_succ_cons, List.take_succ_cons, List.take_zero] at h0 h1 h2 h3 h4 h5
  obtain ⟨t, ht⟩ := table_cells h0
  obtain ⟨ys, k2, -, -, -, hlen2, hg2⟩ := DataW.trod_struct Tryd.underlying27 h1
  have g0 := hg2 0 _ rfl
  have g1 := hg2 1 _ rfl
  rw [List.getElem?_eq_getElem (by rw [hlen2]; decide)] at g0 g1
  simp only [List.getElem_toArray, List.getElem_cons_zero, List.getElem_cons_succ, c3, List.drop_zero, List.drop_succ_cons, List.take_succ_cons, List.take_zero] at g0 g1
  obtain ⟨s, q0, -, -⟩ := DataW.trod_int Tryd.underlying3 g0
  obtain ⟨g, q1, -, -⟩ := DataW.trod_int Tryd.underlying3 g1
  obtain ⟨c, q2, -, -⟩ := DataW.trod_int Tryd.underlying3 h2
  obtain ⟨n, q3, -, -⟩ := DataW.trod_int Tryd.underlying3 h3
  obtain ⟨m, q4, -, wm⟩ := DataW.trod_int Tryd.underlying28 h4
  obtain ⟨ev, q5, -, we⟩ := DataW.trod_int Tryd.underlying3 h5
  obtain rfl := (List.cons.inj q0).1
  obtain rfl := (List.cons.inj q1).1
  obtain rfl := (List.cons.inj q2).1
  obtain rfl := (List.cons.inj q3).1
  obtain rfl := (List.cons.inj q4).1
  obtain rfl := (List.cons.inj q5).1
  obtain ⟨m', rfl, hm⟩ := V_of_wf wm
  exact ⟨_, _, t, s, g, c, n, m', ev, rfl, ht, hm, we⟩
end Go.Proofs.YtjikabalpejmlaaDoor
