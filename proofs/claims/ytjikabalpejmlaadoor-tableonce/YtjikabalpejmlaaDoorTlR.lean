/-
  The document's own answers of layer 14: Same, Handles, Check, Live.
-/
import Derived.Test.YtjikabalpejmlaaDoorTlN
import Derived.Test.YtjikabalpejmlaaDoorLfS
namespace Go.Proofs.YtjikabalpejmlaaDoor
open Go.RowKit Go.Deep Pk Lf
open Mk (V allM cpus fstI anyB)

theorem neK (x : Tl.Tk) (w : World) : (binOp BinOp.neq 52 (.agg #[.int .i64 x.nice, .int .u64 (x.mask : Int), .int .i64 x.lag]) (.agg #[.int .i64 x.nice, .int .u64 (x.mask : Int), .int .i64 x.lag])).run Tryd.prog w = .ok (.bool false) w := by
  have u0 := Tryd.underlying3
  have u1 := Tryd.underlying28
  have hS : Tryd.prog.underlying 52 = some (.struct (Tryd.prog.fieldsOf 52)) := by kernel_rfl
  have hp : Tryd.prog.stoodInHeld 52 = false := by kernel_rfl
  rw [run_neq_struct, show (10000 : Nat) = 9999 + 1 from rfl, run_equalIn_agg w 9999 52 _ _ hS hp]
  simp only [Program.fieldsOf, Tryd.underlying52]
  go_simp
theorem neH (x : Tl.Hd) (w : World) : (binOp BinOp.neq 27 (.agg #[.int .i64 x.slot, .int .i64 x.gen]) (.agg #[.int .i64 x.slot, .int .i64 x.gen])).run Tryd.prog w = .ok (.bool false) w := by
  have u0 := Tryd.underlying3
  have hS : Tryd.prog.underlying 27 = some (.struct (Tryd.prog.fieldsOf 27)) := by kernel_rfl
  have hp : Tryd.prog.stoodInHeld 27 = false := by kernel_rfl
  rw [run_neq_struct, show (10000 : Nat) = 9999 + 1 from rfl, run_equalIn_agg w 9999 27 _ _ hS hp]
  simp only [Program.fieldsOf, Tryd.underlying27]
  go_simp
set_option maxHeartbeats 4000000 in
set_option maxRecDepth 100000 in
/-- The same table twice. -/
theorem rsame_any (t : Tl.T) (v u : Value) (W : World) (hV : Tv W v t) (hU : Tv W u t) :
    Calls Tryd.prog 14 #[v, u] W fun e w' => e = .returned (.bool true) ∧ Below W.heap.size W w' := by
  have HV := Lib.hid hV
  have HU := Lib.hid hU
  obtain ⟨c0, c1, rfl, ⟨a0, p0, rfl, hm0, -⟩, ⟨a1, p1, rfl, hm1, -⟩⟩ := hV
  obtain ⟨d0, d1, rfl, ⟨a2, p2, rfl, -⟩, ⟨a3, p3, rfl, -⟩⟩ := hU
  obtain ⟨n0, hn0⟩ : ∃ n, t.ws.length = n := ⟨_, rfl⟩
  obtain ⟨n1, hn1⟩ : ∃ n, t.ts.length = n := ⟨_, rfl⟩
  have HN := Lib.hid (And.intro hn0 hn1)
  rw [hn0] at HV HU hm0 ⊢
  rw [hn1] at HV HU hm1 ⊢
  clear hn0 hn1
  unfold maxLen at hm0
  have hq1 : n1 ≤ 9223372036854775807 := by have := hm1; unfold maxLen at this; omega
  clear hm1
  have HB1 := Lib.hid ((Below.refl W.heap.size W).alloc (Nat.le_refl _) (.cells #[.slice a0 n0 p0, .slice a1 n1 p1] 25))
  have HB2 := Lib.hid ((Below.refl (W.alloc (.cells #[.slice a0 n0 p0, .slice a1 n1 p1] 25)).heap.size (W.alloc (.cells #[.slice a0 n0 p0, .slice a1 n1 p1] 25))).alloc (Nat.le_refl _) (.cells #[.slice a2 n0 p2, .slice a3 n1 p3] 25))
  have HX := Lib.hid ((Bt.new W (.slice a0 n0 p0) (.slice a1 n1 p1)).below HB2.out)
  have HY : Hid (Bt ((W.alloc (.cells #[.slice a0 n0 p0, .slice a1 n1 p1] 25)).alloc (.cells #[.slice a2 n0 p2, .slice a3 n1 p3] 25)) (W.heap.size + 1) (.slice a2 n0 p2) (.slice a3 n1 p3)) := Lib.hid (by
    have := Bt.new (W.alloc (.cells #[.slice a0 n0 p0, .slice a1 n1 p1] 25)) (.slice a2 n0 p2) (.slice a3 n1 p3)
    rwa [sz_alloc] at this)
  have HB3 := Lib.hid (bOn HB1.out HB2.out)
  have HV1 := Lib.hid (HV.out.below HB3.out)
  have HU1 := Lib.hid (HU.out.below HB3.out)
  clear HB1 HB2 HV HU
  go_enter Tryd.func14, Tryd.ntmps14
  go_upto_region 1 with fail
  generalize (W.alloc _).alloc _ = w1 at HX HY HB3 HV1 HU1 ⊢
  obtain ⟨x0, x1⟩ := HX.out.cells
  obtain ⟨y0, y1⟩ := HY.out.cells
  go_wp2
  go_loopw [5] (fun i wr => ∃ k : Nat, k ≤ n0 ∧ i = .int .i64 k ∧ Hid (Below w1.heap.size w1 wr)) (fun i _ => n0 - (intOf i).toNat)
  case atStart => exact ⟨0, by omega, rfl, Lib.hid (Below.refl _ _)⟩
  case round =>
    obtain ⟨k, hk, rfl, HJ⟩ := hrel
    have xr0 := (HJ.out.cell (p := ⟨W.heap.size, 0, none⟩) HX.out.lt).trans x0
    have xr1 := (HJ.out.cell (p := ⟨W.heap.size, 1, none⟩) HX.out.lt).trans x1
    have yr0 := (HJ.out.cell (p := ⟨W.heap.size + 1, 0, none⟩) HY.out.lt).trans y0
    have yr1 := (HJ.out.cell (p := ⟨W.heap.size + 1, 1, none⟩) HY.out.lt).trans y1
    clear x0 x1 y0 y1
    by_cases hlt : k < n0
    · obtain ⟨q0, q1, e, hI, -⟩ := HV1.out
      simp only [Value.agg.injEq, Array.mk.injEq, List.cons.injEq, and_true] at e
      obtain ⟨rfl, rfl⟩ := e
      obtain ⟨q2, q3, e, hI2, -⟩ := HU1.out
      simp only [Value.agg.injEq, Array.mk.injEq, List.cons.injEq, and_true] at e
      obtain ⟨rfl, rfl⟩ := e
      rcases hI.parts with ⟨h, -⟩ | ⟨-, -, b, off, cap', hv, hb, hc⟩
      · have := HN.out.1; rw [h] at this; simp at this; omega
      simp only [Value.slice.injEq] at hv
      obtain ⟨rfl, -, rfl⟩ := hv
      rcases hI2.parts with ⟨h, -⟩ | ⟨-, -, b', off', cap'', hv, hb', hc'⟩
      · have := HN.out.1; rw [h] at this; simp at this; omega
      simp only [Value.slice.injEq] at hv
      obtain ⟨rfl, -, rfl⟩ := hv
      have z0 := (HJ.out.cell (p := ⟨b, off + k, none⟩) hb).trans (hc k (by rw [HN.out.1]; exact hlt))
      have z1 := (HJ.out.cell (p := ⟨b', off' + k, none⟩) hb').trans (hc' k (by rw [HN.out.1]; exact hlt))
      generalize t.ws.getD k 0 = z at z0 z1
      clear hI hI2 hb hc hb' hc'
      have e1 : (z != z) = false := by simp
      have f0 : ∀ n, (wr.drewN n).cell? ⟨W.heap.size, 0, none⟩ = _ := fun n => xr0
      have f1 : ∀ n, (wr.drewN n).cell? ⟨W.heap.size + 1, 0, none⟩ = _ := fun n => yr0
      have f2 : ∀ n, (wr.drewN n).cell? ⟨b, off + k, none⟩ = _ := fun n => z0
      have f3 : ∀ n, (wr.drewN n).cell? ⟨b', off' + k, none⟩ = _ := fun n => z1
      have hd1 : decide ((k : Int) < (n0 : Int)) = true := decide_eq_true (by omega)
      go_upto_region 6 with fail
      go_quiet (fail)
      go_wp2
      exact ⟨⟨k + 1, by omega, by go_num, Lib.hid (below_drewN HJ.out _)⟩, by simp [intOf]; omega⟩
    · obtain rfl : k = n0 := by omega
      have HR := Lib.hid HJ.out
      clear HJ
      go_upto_region 8 with fail
      go_wp2
      go_loopw [6] (fun i w2 => ∃ j : Nat, j ≤ n1 ∧ i = .int .i64 j ∧ Hid (Below w1.heap.size w1 w2)) (fun i _ => n1 - (intOf i).toNat)
      case atStart => exact ⟨0, by omega, rfl, Lib.hid HR.out⟩
      case round =>
        clear xr0 xr1 yr0 yr1
        obtain ⟨j, hj, rfl, HJ2⟩ := hrel
        obtain ⟨x0, x1⟩ := HX.out.cells
        obtain ⟨y0, y1⟩ := HY.out.cells
        have xr1 := (HJ2.out.cell (p := ⟨W.heap.size, 1, none⟩) HX.out.lt).trans x1
        have yr1 := (HJ2.out.cell (p := ⟨W.heap.size + 1, 1, none⟩) HY.out.lt).trans y1
        clear x0 x1 y0 y1
        by_cases hlt : j < n1
        · obtain ⟨q0, q1, e, -, hI⟩ := HV1.out
          simp only [Value.agg.injEq, Array.mk.injEq, List.cons.injEq, and_true] at e
          obtain ⟨rfl, rfl⟩ := e
          obtain ⟨q2, q3, e, -, hI2⟩ := HU1.out
          simp only [Value.agg.injEq, Array.mk.injEq, List.cons.injEq, and_true] at e
          obtain ⟨rfl, rfl⟩ := e
          rcases Ks.parts hI with ⟨h, -⟩ | ⟨-, b, off, cap', hv, -, hb, hc⟩
          · have := HN.out.2; rw [h] at this; simp at this; omega
          simp only [Value.slice.injEq] at hv
          obtain ⟨rfl, -, rfl⟩ := hv
          rcases Ks.parts hI2 with ⟨h, -⟩ | ⟨-, b', off', cap'', hv, -, hb', hc'⟩
          · have := HN.out.2; rw [h] at this; simp at this; omega
          simp only [Value.slice.injEq] at hv
          obtain ⟨rfl, -, rfl⟩ := hv
          obtain ⟨z0, z1, z2⟩ := hc j (by rw [HN.out.2]; exact hlt)
          obtain ⟨z3, z4, z5⟩ := hc' j (by rw [HN.out.2]; exact hlt)
          have z0 := (HJ2.out.cell (p := ⟨b, off + j * 3, none⟩) hb).trans z0
          have z1 := (HJ2.out.cell (p := ⟨b, off + j * 3 + 1, none⟩) hb).trans z1
          have z2 := (HJ2.out.cell (p := ⟨b, off + j * 3 + 2, none⟩) hb).trans z2
          have z3 := (HJ2.out.cell (p := ⟨b', off' + j * 3, none⟩) hb').trans z3
          have z4 := (HJ2.out.cell (p := ⟨b', off' + j * 3 + 1, none⟩) hb').trans z4
          have z5 := (HJ2.out.cell (p := ⟨b', off' + j * 3 + 2, none⟩) hb').trans z5
          generalize t.ts.getD j Tl.k0 = x at z0 z1 z2 z3 z4 z5
          clear hI hI2 hb hc hb' hc'
          have e1 : ∀ w, (binOp BinOp.neq 52 (.agg #[.int .i64 x.nice, .int .u64 (x.mask : Int), .int .i64 x.lag]) (.agg #[.int .i64 x.nice, .int .u64 (x.mask : Int), .int .i64 x.lag])).run Tryd.prog w = .ok (.bool false) w := fun w => neK x w
          have f0 : ∀ n, (wr.drewN n).cell? ⟨W.heap.size, 1, none⟩ = _ := fun n => xr1
          have f1 : ∀ n, (wr.drewN n).cell? ⟨W.heap.size + 1, 1, none⟩ = _ := fun n => yr1
          have g0 : ∀ n, (wr.drewN n).cell? ⟨b, off + j * 3, none⟩ = _ := fun n => z0
          have g1 : ∀ n, (wr.drewN n).cell? ⟨b, off + j * 3 + 1, none⟩ = _ := fun n => z1
          have g2 : ∀ n, (wr.drewN n).cell? ⟨b, off + j * 3 + 2, none⟩ = _ := fun n => z2
          have g3 : ∀ n, (wr.drewN n).cell? ⟨b', off' + j * 3, none⟩ = _ := fun n => z3
          have g4 : ∀ n, (wr.drewN n).cell? ⟨b', off' + j * 3 + 1, none⟩ = _ := fun n => z4
          have g5 : ∀ n, (wr.drewN n).cell? ⟨b', off' + j * 3 + 2, none⟩ = _ := fun n => z5
          go_upto_region 11 with fail
          go_quiet (fail)
          go_wp2
          exact ⟨⟨j + 1, by omega, by go_num, Lib.hid (below_drewN HJ2.out _)⟩, by simp [intOf]; omega⟩
        · obtain rfl : j = n1 := by omega
          go_wp2
          go_ret
          exact ⟨rfl, HB3.out.trans (HJ2.out.mono HB3.out.size)⟩

set_option maxHeartbeats 4000000 in
set_option maxRecDepth 100000 in
/-- The same handles twice. -/
theorem rhandles_any (l : List Tl.Hd) (v u : Value) (W : World) (hV : Hs W v l) (hU : Hs W u l) :
    Calls Tryd.prog 24 #[v, u] W fun e w' => e = .returned (.bool true) ∧ Below W.heap.size W w' := by
  have HV := Lib.hid hV
  have HU := Lib.hid hU
  obtain ⟨a0, p0, rfl, hm0, -⟩ := hV
  obtain ⟨a2, p2, rfl, -⟩ := hU
  obtain ⟨n0, hn0⟩ : ∃ n, l.length = n := ⟨_, rfl⟩
  have HN := Lib.hid hn0
  rw [hn0] at HV HU hm0 ⊢
  clear hn0
  have hq1 : n0 ≤ 9223372036854775807 := by have := hm0; unfold maxLen at this; omega
  clear hm0
  go_enter Tryd.func24, Tryd.ntmps24
  go_wp2
  go_loopw [5] (fun i wr => ∃ k : Nat, k ≤ n0 ∧ i = .int .i64 k ∧ Hid (Below W.heap.size W wr)) (fun i _ => n0 - (intOf i).toNat)
  case atStart => exact ⟨0, by omega, rfl, Lib.hid (Below.refl _ _)⟩
  case round =>
    obtain ⟨k, hk, rfl, HJ⟩ := hrel
    by_cases hlt : k < n0
    · rcases Hs.parts HV.out with ⟨h, -⟩ | ⟨-, b, off, cap', hv, -, hb, hc⟩
      · have := HN.out; rw [h] at this; simp at this; omega
      simp only [Value.slice.injEq] at hv
      obtain ⟨rfl, -, rfl⟩ := hv
      rcases Hs.parts HU.out with ⟨h, -⟩ | ⟨-, b', off', cap'', hv, -, hb', hc'⟩
      · have := HN.out; rw [h] at this; simp at this; omega
      simp only [Value.slice.injEq] at hv
      obtain ⟨rfl, -, rfl⟩ := hv
      obtain ⟨z0, z1⟩ := hc k (by rw [HN.out]; exact hlt)
      obtain ⟨z3, z4⟩ := hc' k (by rw [HN.out]; exact hlt)
      have z0 := (HJ.out.cell (p := ⟨b, off + k * 2, none⟩) hb).trans z0
      have z1 := (HJ.out.cell (p := ⟨b, off + k * 2 + 1, none⟩) hb).trans z1
      have z3 := (HJ.out.cell (p := ⟨b', off' + k * 2, none⟩) hb').trans z3
      have z4 := (HJ.out.cell (p := ⟨b', off' + k * 2 + 1, none⟩) hb').trans z4
      generalize l.getD k Tl.h0 = x at z0 z1 z3 z4
      clear hb hc hb' hc'
      have e1 : ∀ w, (binOp BinOp.neq 27 (.agg #[.int .i64 x.slot, .int .i64 x.gen]) (.agg #[.int .i64 x.slot, .int .i64 x.gen])).run Tryd.prog w = .ok (.bool false) w := fun w => neH x w
      have g0 : ∀ n, (wr.drewN n).cell? ⟨b, off + k * 2, none⟩ = _ := fun n => z0
      have g1 : ∀ n, (wr.drewN n).cell? ⟨b, off + k * 2 + 1, none⟩ = _ := fun n => z1
      have g3 : ∀ n, (wr.drewN n).cell? ⟨b', off' + k * 2, none⟩ = _ := fun n => z3
      have g4 : ∀ n, (wr.drewN n).cell? ⟨b', off' + k * 2 + 1, none⟩ = _ := fun n => z4
      go_upto_region 6 with fail
      go_quiet (fail)
      go_wp2
      exact ⟨⟨k + 1, by omega, by go_num, Lib.hid (below_drewN HJ.out _)⟩, by simp [intOf]; omega⟩
    · obtain rfl : k = n0 := by omega
      go_wp2
      go_ret
      exact ⟨rfl, HJ.out⟩
end Go.Proofs.YtjikabalpejmlaaDoor
