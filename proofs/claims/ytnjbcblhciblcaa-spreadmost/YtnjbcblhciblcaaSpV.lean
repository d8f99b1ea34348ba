/-
  Made: who may go, by numbers, of the laws of layer 13.
-/
import Derived.Test.YtnjbcblhciblcaaSpA
import Derived.Deep.RegionLaw
namespace Go.Proofs.Ytnjbcblhciblcaa
open Go.RowKit Go.Shelf Mk Sp

def wT : Nat → Int
  | 0 => 1024 | 1 => 15 | 2 => 820 | 3 => 335 | 4 => 88761 | 5 => 36 | 6 => 110 | _ => 3121
theorem wT_ok (j : Nat) : 1 ≤ wT j ∧ wT j ≤ 88761 := by
  unfold wT
  split <;> omega
def mkC (i : Nat) (z : Int) : C := ⟨(i : Int), wT (z.toNat % 8), z.toNat / 8⟩
def madeUp (zs : List Int) (k : Nat) : List C := (List.range k).map fun i => mkC i (zs.getD i 0)
theorem madeUp_len (zs : List Int) (k : Nat) : (madeUp zs k).length = k := by simp [madeUp]
theorem madeUp_succ (zs : List Int) (k : Nat) : madeUp zs (k + 1) = madeUp zs k ++ [mkC k (zs.getD k 0)] := by simp [madeUp, List.range_succ]
theorem madeUp_at (zs : List Int) (k i : Nat) (h : i < k) : (madeUp zs k).getD i default = mkC i (zs.getD i 0) := by simp [madeUp, List.getD, h]
theorem madeUp_mem {zs : List Int} {k : Nat} {c : C} (h : c ∈ madeUp zs k) : ∃ i, i < k ∧ c = mkC i (zs.getD i 0) := by
  unfold madeUp at h
  obtain ⟨i, hi, rfl⟩ := List.mem_map.1 h
  exact ⟨i, List.mem_range.1 hi, rfl⟩
theorem mkC_ok (i : Nat) (z : Int) (hi : i < 40) (hz : 0 ≤ z ∧ z ≤ 65535) : encC.ok (mkC i z) := by
  have := wT_ok (z.toNat % 8)
  refine ⟨?_, ?_, ?_⟩
  · show -9223372036854775808 ≤ (i : Int) ∧ (i : Int) ≤ 9223372036854775807; omega
  · show -9223372036854775808 ≤ wT (z.toNat % 8) ∧ wT (z.toNat % 8) ≤ 9223372036854775807; omega
  · show z.toNat / 8 < 18446744073709551616; omega
theorem madeUp_wt (zs : List Int) (k : Nat) : (madeUp zs k).all wtOk = true := by
  rw [List.all_eq_true]
  intro c hc
  obtain ⟨i, -, rfl⟩ := madeUp_mem hc
  exact (wtOk_iff _).2 (wT_ok _)

theorem info_cand : (Try.prog.info? 41).map (fun i => (i.zero, i.size, i.bytes)) = some (some (.agg #[.int .i64 0, .int .i64 0, .int .u64 0]), 3, 24) := by kernel_rfl
/-- How many are made. -/
def madeN (zs : List Int) : Nat := min zs.length 40

set_option maxRecDepth 100000 in
set_option maxHeartbeats 4000000 in
theorem made_any (v : Value) (zs : List Int) (w : World) (hv : Ints .u16 w v zs) :
    Calls Try.prog 19 #[v] w fun e w' => ∃ u B, w.heap.size ≤ B ∧ e = .returned u ∧ OwnE encC w' B 41 u (madeUp zs (madeN zs)) ∧ Below w.heap.size w w' := by
  have hwf := hv.wf
  have HV := Lib.hid hv
  have hparts := hv.parts
  obtain ⟨a, cap, rfl, hm, -, -⟩ := hv
  have hml : zs.length ≤ 9223372036854775807 := by unfold maxLen at hm; omega
  clear hm
  obtain ⟨n, hn⟩ : ∃ n, zs.length = n := ⟨_, rfl⟩
  have HN := Lib.hid hn
  have HMN : Hid (madeN zs = min n 40) := by unfold Hid madeN; rw [hn]
  rw [hn] at hml HV hparts ⊢
  clear hn
  have hcT : ∀ j, j < 8 → (w.alloc (.cells #[.int .i64 1024, .int .i64 15, .int .i64 820, .int .i64 335, .int .i64 88761, .int .i64 36, .int .i64 110, .int .i64 3121] 3)).cell? ⟨w.heap.size, j, none⟩ = some (.int .i64 (wT j)) := by
    intro j hj
    rw [World.cell?_alloc_new]
    match j, hj with
    | 0, _ => rfl | 1, _ => rfl | 2, _ => rfl | 3, _ => rfl | 4, _ => rfl | 5, _ => rfl | 6, _ => rfl | 7, _ => rfl
  have hal : Below w.heap.size w (w.alloc (.cells #[.int .i64 1024, .int .i64 15, .int .i64 820, .int .i64 335, .int .i64 88761, .int .i64 36, .int .i64 110, .int .i64 3121] 3)) := (Below.refl _ w).alloc (Nat.le_refl _) _
  have hsz : (w.alloc (.cells #[.int .i64 1024, .int .i64 15, .int .i64 820, .int .i64 335, .int .i64 88761, .int .i64 36, .int .i64 110, .int .i64 3121] 3)).heap.size = w.heap.size + 1 := by simp
  go_enter Try.func19, Try.ntmps19
  go_wp2
  generalize w.alloc _ = w0 at *
  go_loopw [3, 5] (fun u i wr => ∃ k : Nat, k ≤ n ∧ k ≤ 40 ∧ i = .int .i64 k ∧ OwnE encC wr (w.heap.size + 1) 41 u (madeUp zs k) ∧ Below (w.heap.size + 1) w0 wr) (fun _ i _ => 40 - (intOf i).toNat)
  case atStart => exact ⟨0, by omega, by omega, rfl, OwnE.nil _ _ _, Below.refl _ _⟩
  case round =>
    obtain ⟨k, hk, hk40, rfl, hown, hnx⟩ := hrel
    by_cases hlt : k < n
    · by_cases hl4 : k < 40
      · rcases hparts with ⟨h0, -⟩ | ⟨-, -, b, off, cap', he, hbk, hc⟩
        · rw [h0] at HN; exact absurd (show n = 0 from HN.out.symm) (by omega)
        obtain ⟨rfl, rfl⟩ : a = some ⟨b, off, none⟩ ∧ cap = cap' := by cases he; exact ⟨rfl, rfl⟩
        have ck : wr.cell? ⟨b, off + k, none⟩ = some (.int .u16 (zs.getD k 0)) := by
          rw [hnx.cell (p := ⟨b, off + k, none⟩) (show b < w.heap.size + 1 by omega), hal.cell (p := ⟨b, off + k, none⟩) hbk]
          exact hc k hlt
        have hz := bounds_u16 (hwf (zs.getD k 0) (by
          have hl : k < zs.length := by rw [HN.out]; exact hlt
          have : zs.getD k 0 = zs[k] := by simp [List.getD, hl]
          rw [this]; exact List.getElem_mem hl))
        have HS := Lib.hid (madeUp_succ zs k)
        have HL := Lib.hid (madeUp_len zs k)
        have HO := Lib.hid hown
        have HX := Lib.hid hnx
        have hcj0 := hcT ((zs.getD k 0).toNat % 8) (Nat.mod_lt _ (by decide))
        rw [← hnx.cell (p := ⟨w.heap.size, (zs.getD k 0).toNat % 8, none⟩) (show w.heap.size < w.heap.size + 1 by omega)] at hcj0
        have HOK := Lib.hid (mkC_ok k (zs.getD k 0) hl4 hz)
        clear hown hnx hc he hwf hcT hal
        generalize madeUp zs k = ys at *
        generalize zs.getD k 0 = z at *
        have HVS : Hid (cellsE encC [mkC k z] = [.int .i64 (k : Int), .int .i64 (wT (z.toNat % 8)), .int .u64 ((z.toNat / 8 : Nat) : Int)]) := rfl
        obtain ⟨j, hj, hjd⟩ : ∃ j, z.toNat % 8 = j ∧ j < 8 := ⟨_, rfl, Nat.mod_lt _ (by decide)⟩
        rw [hj] at hcj0 HVS
        have hw1 : IntKind.i64.wrap z = z := by rw [IntWalk.i64_left]; exact IntWalk.wrap64_in _ (by omega)
        have hj2 : z.tmod 8 = (j : Int) := by rw [Int.tmod_eq_emod_of_nonneg hz.1]; omega
        have hj8 : (j : Int) < 8 := by omega
        generalize wT j = wj at *
        have HVT : Hid (#[.int .i64 (k : Int), .int .i64 wj, .int .u64 (IntKind.u64.wrap (IntKind.u16.wrap (z.tdiv 8)))] = (cellsE encC [mkC k z]).toArray) := by
          unfold Hid
          rw [HVS.out]
          have e1 : z.tdiv 8 = z / 8 := Int.tdiv_eq_ediv_of_nonneg hz.1
          have e2 : IntKind.u16.wrap (z / 8) = z / 8 := by rw [IntKind.wrap_u16]; omega
          have e3 : IntKind.u64.wrap (z / 8) = ((z.toNat / 8 : Nat) : Int) := by rw [IntKind.wrap_u64]; omega
          rw [e1, e2, e3]
        go_wp2
        go_region_law (refine step_append_els encC rfl (.tmp 17) (.tmp 35) 22 rfl (w.heap.size + 1) 41 Try.underlying22 info_cand rfl (by decide) ys [mkC k z] (HO.out.alloc _).drew (els_new wr _ [mkC k z] (by intro x hx; simp at hx; subst hx; exact HOK.out) _ HVT.out _ rfl _ rfl _ ⟨by simp, by unfold maxLen; simp⟩).drew (by rw [HL.out]; simp [encC]; omega) (by rw [HL.out]; simp; omega) (by have := HX.out.size; simp; omega) ?_; intro v' w2 hown2 hbel2)
        all_goals
          have H2 : Hid (OwnE encC w2 (w.heap.size + 1) 41 v' (ys ++ [mkC k z])) := Lib.hid hown2
          have H3 : Hid (Below (w.heap.size + 1) w0 w2) := Lib.hid ((HX.out.alloc (by have := HX.out.size; omega) _).trans ⟨hbel2.os, hbel2.tape, hbel2.output, hbel2.size, hbel2.block⟩)
          clear hown2 hbel2
          go_wp2
          exact ⟨⟨k + 1, by omega, by omega, by go_num, by rw [HS.out]; exact H2.out, H3.out⟩, by simp [intOf]; omega⟩
      · obtain rfl : k = 40 := by omega
        have HE : Hid (madeN zs = 40) := by unfold Hid; rw [HMN.out]; omega
        clear hparts hwf hcT
        go_wp2
        go_ret
        exact ⟨_, w.heap.size + 1, by omega, rfl, by rw [HE.out]; exact hown, hal.trans (hnx.mono (by omega))⟩
    · have HE : Hid (madeN zs = k) := by unfold Hid; rw [HMN.out]; omega
      clear hparts hwf hcT
      go_wp2
      go_ret
      exact ⟨_, w.heap.size + 1, by omega, rfl, by rw [HE.out]; exact hown, hal.trans (hnx.mono (by omega))⟩
end Go.Proofs.Ytnjbcblhciblcaa
