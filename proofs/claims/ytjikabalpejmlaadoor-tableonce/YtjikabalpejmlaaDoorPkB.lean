/-
  Contracts of layer 6's Pack, Unpack and Put, of every argument in its kind's bounds.
-/
import Derived.Test.YtjikabalpejmlaaDoorPkA
namespace Go.Proofs.YtjikabalpejmlaaDoor
open Go.RowKit Pk

theorem ix0 (a b c d e : Int) (w : World) : (Instr.index 115 (.agg #[.int .i64 a, .int .i64 b, .int .i64 c, .int .i64 d, .int .i64 e]) (.int .i64 0)).run Tryd.prog w = .ok (.int .i64 a) w := by kernel_rfl
theorem ix1 (a b c d e : Int) (w : World) : (Instr.index 115 (.agg #[.int .i64 a, .int .i64 b, .int .i64 c, .int .i64 d, .int .i64 e]) (.int .i64 1)).run Tryd.prog w = .ok (.int .i64 b) w := by kernel_rfl
theorem ix2 (a b c d e : Int) (w : World) : (Instr.index 115 (.agg #[.int .i64 a, .int .i64 b, .int .i64 c, .int .i64 d, .int .i64 e]) (.int .i64 2)).run Tryd.prog w = .ok (.int .i64 c) w := by kernel_rfl
theorem ix3 (a b c d e : Int) (w : World) : (Instr.index 115 (.agg #[.int .i64 a, .int .i64 b, .int .i64 c, .int .i64 d, .int .i64 e]) (.int .i64 3)).run Tryd.prog w = .ok (.int .i64 d) w := by kernel_rfl
theorem ix4 (a b c d e : Int) (w : World) : (Instr.index 115 (.agg #[.int .i64 a, .int .i64 b, .int .i64 c, .int .i64 d, .int .i64 e]) (.int .i64 4)).run Tryd.prog w = .ok (.int .i64 e) w := by kernel_rfl

theorem tab_all {w : World} (hT : Tab w) : w.cell? ⟨0, 0, none⟩ = some (.int .u64 0) ∧ w.cell? ⟨0, 1, none⟩ = some (.int .i64 7) ∧ w.cell? ⟨0, 2, none⟩ = some (.int .u64 3) ∧ w.cell? ⟨0, 3, none⟩ = some (.int .i64 63) ∧ w.cell? ⟨0, 4, none⟩ = some (.int .u64 9) ∧ w.cell? ⟨0, 5, none⟩ = some (.int .i64 1) ∧ w.cell? ⟨0, 6, none⟩ = some (.int .u64 10) ∧ w.cell? ⟨0, 7, none⟩ = some (.int .i64 65535) ∧ w.cell? ⟨0, 8, none⟩ = some (.int .u64 26) ∧ w.cell? ⟨0, 9, none⟩ = some (.int .i64 4294967295) :=
  ⟨(hT 0 (by omega)).1, (hT 0 (by omega)).2, (hT 1 (by omega)).1, (hT 1 (by omega)).2, (hT 2 (by omega)).1, (hT 2 (by omega)).2, (hT 3 (by omega)).1, (hT 3 (by omega)).2, (hT 4 (by omega)).1, (hT 4 (by omega)).2⟩

set_option maxHeartbeats 4000000 in
theorem pack_yes0 (k c s g : Int) (hk : 0 ≤ k ∧ k ≤ 7) (hc : 0 ≤ c ∧ c ≤ 63) (hs : 0 ≤ s ∧ s ≤ 65535) (hg : 0 ≤ g ∧ g ≤ 4294967295) (W : World) (hT : Tab W) :
    Calls Tryd.prog 72 #[.agg #[.int .i64 k, .int .i64 c, .bool false, .int .i64 s, .int .i64 g]] W fun e w' => e = .returned (.tuple #[.int .u64 (word k c false s g), .int .i64 0]) ∧ Below W.heap.size W w' := by
  have HO := Lib.hid (ors k c s g 0 hk hc hs hg (by decide))
  have HT := Lib.hid hT
  clear hT
  obtain ⟨k0, k1⟩ := hk
  obtain ⟨c0, c1⟩ := hc
  obtain ⟨s0, s1⟩ := hs
  obtain ⟨g0, g1⟩ := hg
  go_enter Tryd.func72, Tryd.ntmps72
  go_wp2_with fail
  refine (split_any k c false s g _).mono ?_
  rintro e' w_hs ⟨rfl, hs⟩
  have HW : Hid (Below W.heap.size W w_hs) := Lib.hid (Below.trans (by go_grown) (hs.mono (by simp)))
  clear hs
  obtain ⟨t0, t1, t2, t3, t4, t5, t6, t7, t8, t9⟩ := tab_all (HT.out.below HW.out)
  have i0 := ix0 k c 0 s g
  have i1 := ix1 k c 0 s g
  have i2 := ix2 k c 0 s g
  have i3 := ix3 k c 0 s g
  have i4 := ix4 k c 0 s g
  have hb01 : b01 false = 0 := rfl
  rw [hb01]
  clear hb01
  go_wp2
  go_rounds 6
  go_ret2
  exact ⟨by rw [show word k c false s g = k + 8 * c + 0 + 1024 * s + 67108864 * g from rfl, ← HO.out]; rfl, HW.out⟩

set_option maxHeartbeats 4000000 in
theorem pack_yes1 (c s g : Int) (hc : 0 ≤ c ∧ c ≤ 63) (hs : 0 ≤ s ∧ s ≤ 65535) (hg : 0 ≤ g ∧ g ≤ 4294967295) (W : World) (hT : Tab W) :
    Calls Tryd.prog 72 #[.agg #[.int .i64 7, .int .i64 c, .bool true, .int .i64 s, .int .i64 g]] W fun e w' => e = .returned (.tuple #[.int .u64 (word 7 c true s g), .int .i64 0]) ∧ Below W.heap.size W w' := by
  have HO := Lib.hid (ors 7 c s g 512 ⟨by decide, by decide⟩ hc hs hg (by decide))
  have HT := Lib.hid hT
  clear hT

  obtain ⟨c0, c1⟩ := hc
  obtain ⟨s0, s1⟩ := hs
  obtain ⟨g0, g1⟩ := hg
  go_enter Tryd.func72, Tryd.ntmps72
  go_wp2_with fail
  refine (split_any 7 c true s g _).mono ?_
  rintro e' w_hs ⟨rfl, hs⟩
  have HW : Hid (Below W.heap.size W w_hs) := Lib.hid (Below.trans (by go_grown) (hs.mono (by simp)))
  clear hs
  obtain ⟨t0, t1, t2, t3, t4, t5, t6, t7, t8, t9⟩ := tab_all (HT.out.below HW.out)
  have i0 := ix0 7 c 1 s g
  have i1 := ix1 7 c 1 s g
  have i2 := ix2 7 c 1 s g
  have i3 := ix3 7 c 1 s g
  have i4 := ix4 7 c 1 s g
  have hb01 : b01 true = 1 := rfl
  rw [hb01]
  clear hb01
  go_wp2
  go_rounds 6
  go_ret2
  exact ⟨by rw [show word 7 c true s g = 7 + 8 * c + 512 + 1024 * s + 67108864 * g from rfl, ← HO.out]; rfl, HW.out⟩

set_option maxHeartbeats 4000000 in
theorem pack_no0 (k c s g : Int) (h : (k < 0 ∨ 7 < k) ∨ ((0 ≤ k ∧ k ≤ 7) ∧ (c < 0 ∨ 63 < c)) ∨ ((0 ≤ k ∧ k ≤ 7) ∧ (0 ≤ c ∧ c ≤ 63) ∧ (s < 0 ∨ 65535 < s)) ∨ ((0 ≤ k ∧ k ≤ 7) ∧ (0 ≤ c ∧ c ≤ 63) ∧ (0 ≤ s ∧ s ≤ 65535) ∧ (g < 0 ∨ 4294967295 < g))) (W : World) (hT : Tab W) :
    Calls Tryd.prog 72 #[.agg #[.int .i64 k, .int .i64 c, .bool false, .int .i64 s, .int .i64 g]] W fun e w' => e = .returned (.tuple #[.int .u64 0, .int .i64 1]) ∧ Below W.heap.size W w' := by
  have HT := Lib.hid hT
  clear hT
  go_enter Tryd.func72, Tryd.ntmps72
  go_wp2_with fail
  refine (split_any k c false s g _).mono ?_
  rintro e' w_hs ⟨rfl, hs⟩
  have HW : Hid (Below W.heap.size W w_hs) := Lib.hid (Below.trans (by go_grown) (hs.mono (by simp)))
  clear hs
  obtain ⟨t0, t1, t2, t3, t4, t5, t6, t7, t8, t9⟩ := tab_all (HT.out.below HW.out)
  have i0 := ix0 k c 0 s g
  have i1 := ix1 k c 0 s g
  have i2 := ix2 k c 0 s g
  have i3 := ix3 k c 0 s g
  have i4 := ix4 k c 0 s g
  have hb01 : b01 false = 0 := rfl
  rw [hb01]
  clear hb01
  rcases h with (h1 | h1) | ⟨⟨k0, k1⟩, (h1 | h1)⟩ | ⟨⟨k0, k1⟩, ⟨c0, c1⟩, (h1 | h1)⟩ | ⟨⟨k0, k1⟩, ⟨c0, c1⟩, ⟨s0, s1⟩, (h1 | h1)⟩
  all_goals
    go_wp2
    go_rounds 6
    go_ret2
    exact ⟨rfl, HW.out⟩

set_option maxHeartbeats 4000000 in
theorem pack_no1 (c s g : Int) (h : ((c < 0 ∨ 63 < c)) ∨ ((0 ≤ c ∧ c ≤ 63) ∧ (s < 0 ∨ 65535 < s)) ∨ ((0 ≤ c ∧ c ≤ 63) ∧ (0 ≤ s ∧ s ≤ 65535) ∧ (g < 0 ∨ 4294967295 < g))) (W : World) (hT : Tab W) :
    Calls Tryd.prog 72 #[.agg #[.int .i64 7, .int .i64 c, .bool true, .int .i64 s, .int .i64 g]] W fun e w' => e = .returned (.tuple #[.int .u64 0, .int .i64 1]) ∧ Below W.heap.size W w' := by
  have HT := Lib.hid hT
  clear hT
  go_enter Tryd.func72, Tryd.ntmps72
  go_wp2_with fail
  refine (split_any 7 c true s g _).mono ?_
  rintro e' w_hs ⟨rfl, hs⟩
  have HW : Hid (Below W.heap.size W w_hs) := Lib.hid (Below.trans (by go_grown) (hs.mono (by simp)))
  clear hs
  obtain ⟨t0, t1, t2, t3, t4, t5, t6, t7, t8, t9⟩ := tab_all (HT.out.below HW.out)
  have i0 := ix0 7 c 1 s g
  have i1 := ix1 7 c 1 s g
  have i2 := ix2 7 c 1 s g
  have i3 := ix3 7 c 1 s g
  have i4 := ix4 7 c 1 s g
  have hb01 : b01 true = 1 := rfl
  rw [hb01]
  clear hb01
  rcases h with (h1 | h1) | ⟨⟨c0, c1⟩, (h1 | h1)⟩ | ⟨⟨c0, c1⟩, ⟨s0, s1⟩, (h1 | h1)⟩
  all_goals
    go_wp2
    go_rounds 6
    go_ret2
    exact ⟨rfl, HW.out⟩

set_option maxHeartbeats 1000000 in
theorem pack_odd (k c s g : Int) (h : k ≠ 7) (W : World) :
    Calls Tryd.prog 72 #[.agg #[.int .i64 k, .int .i64 c, .bool true, .int .i64 s, .int .i64 g]] W fun e w' => e = .returned (.tuple #[.int .u64 0, .int .i64 1]) ∧ Below W.heap.size W w' := by
  have h1 : (k != 7) = true := by simpa using h
  have h2 : (k == 7) = false := by simpa using h
  go_enter Tryd.func72, Tryd.ntmps72
  go_wp2
  go_ret2
  exact ⟨rfl, by go_grown⟩

theorem pack_any (k c : Int) (b : Bool) (s g : Int) (W : World) (hT : Tab W) :
    Calls Tryd.prog 72 #[.agg #[.int .i64 k, .int .i64 c, .bool b, .int .i64 s, .int .i64 g]] W fun e w' => e = .returned (.tuple #[.int .u64 (pkW k c b s g), .int .i64 (pkE k c b s g)]) ∧ Below W.heap.size W w' := by
  by_cases h : may k c b s g
  · rw [(pk_yes h).1, (pk_yes h).2]
    obtain ⟨hk, hc, hs, hg, hb⟩ := h
    cases b with
    | false => exact pack_yes0 k c s g hk hc hs hg W hT
    | true => obtain rfl := hb rfl; exact pack_yes1 c s g hc hs hg W hT
  · rw [(pk_no h).1, (pk_no h).2]
    cases b with
    | false => exact pack_no0 k c s g (by unfold may at h; simp at h; omega) W hT
    | true =>
      by_cases e : k = 7
      · subst e; exact pack_no1 c s g (by unfold may at h; simp at h; omega) W hT
      · exact pack_odd k c s g e W
end Go.Proofs.YtjikabalpejmlaaDoor
