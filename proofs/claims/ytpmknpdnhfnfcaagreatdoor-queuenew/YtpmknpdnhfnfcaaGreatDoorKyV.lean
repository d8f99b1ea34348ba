/-
  Contracts of turnspitref08's put of no keys, Sort, Put and Drop: the document's own answers for keys.
-/
import Derived.Test.YtpmknpdnhfnfcaaGreatDoorKyU
namespace Go.Proofs.YtpmknpdnhfnfcaaGreatDoor
open Go.RowKit Go.Sort Wd Tn Ky

set_option maxRecDepth 100000 in
set_option maxHeartbeats 400000 in
theorem rput_none (m : Int) (a : Option Addr) (cap : Nat) (k : K) (hkin : Kin k) (W : World) :
    Calls Tryz.prog 140 #[.int .u64 m, .slice a 0 cap, .agg #[.int .u64 k.1, .int .i64 k.2]] W fun e w' => (∃ v', e = .returned v' ∧ Keys w' v' [k]) ∧ Below W.heap.size W w' := by
  have HK := Lib.hid hkin
  have HS : Hid ((W.alloc (.cells #[.int .u64 k.1, .int .i64 k.2] 57)).heap.size = W.heap.size + 1) := Lib.hid (by simp)
  obtain ⟨g0, g1, -, -, -⟩ := (Kb.new W k).all
  clear hkin
  go_enter Tryz.func140, Tryz.ntmps140
  go_wp2
  refine wp_loop_rounds 1 ?_
  rw [rounds_succ]
  go_wp2_with (at_builtin; refine wpList_append_keys rfl (.tmp 42) (.tmp 44) 54 rfl (W.heap.size + 1) 57 Tryz.underlying54 info_key (by decide) [] [k] (OwnK.nil _ _ _) (by have h := one_new (W.alloc (.cells #[.int .u64 k.1, .int .i64 k.2] 57)) k HK.out; rw [HS.out] at h; exact h) (by simp) (by simp) ?_; intro v2 w2 hO2 hb2)
  go_ret
  exact ⟨⟨_, rfl, hO2.keys (by simpa using HK.out)⟩, (((Below.refl _ _).alloc (Nat.le_refl _) _).alloc (by simp) _).trans (hb2.mono (by omega))⟩
set_option maxRecDepth 100000 in
theorem rput_any (m : Int) {W : World} {v : Value} {l : List K} (k : K) (hkin : Kin k) (h : Keys W v l) (hl : l.length ≤ 1000) :
    Calls Tryz.prog 140 #[.int .u64 m, v, .agg #[.int .u64 k.1, .int .i64 k.2]] W fun e w' => (∃ v', e = .returned v' ∧ Keys w' v' (insK m k l)) ∧ Below W.heap.size W w' := by
  rcases h.parts with ⟨rfl, a, cap, rfl⟩ | ⟨hp, b, off, cap, rfl, hcap, hb, hc⟩
  · exact rput_none m a cap k hkin W
  · exact rput_some m k hkin hl h.kin hb hc

set_option maxRecDepth 100000 in
theorem rsort_none (m : Int) (a : Option Addr) (cap : Nat) (W : World) : Calls Tryz.prog 114 #[.int .u64 m, .slice a 0 cap] W fun e w' => e = .returned (.slice none 0 0) ∧ W = w' := by
  go_enter Tryz.func114, Tryz.ntmps114
  go_wp2
  refine wp_loop_rounds 1 ?_
  rw [rounds_succ]
  go_wp2
  go_ret
  exact ⟨rfl, rfl⟩
set_option maxRecDepth 100000 in
set_option maxHeartbeats 400000 in
theorem rsort_some (m : Int) {l : List K} {W : World} {b off cap : Nat} (hl : l.length ≤ 1000) (hin : ∀ x ∈ l, Kin x) (hb : b < W.heap.size)
    (hc : ∀ i, i < l.length → W.cell? ⟨b, off + i * 2, none⟩ = some (.int .u64 (l.getD i (0, 0)).1) ∧ W.cell? ⟨b, off + i * 2 + 1, none⟩ = some (.int .i64 (l.getD i (0, 0)).2)) :
    Calls Tryz.prog 114 #[.int .u64 m, .slice (some ⟨b, off, none⟩) l.length cap] W fun e w' => (∃ v', e = .returned v' ∧ Keys w' v' (srtK m l)) ∧ Below W.heap.size W w' := by
  have HC := Lib.hid hc
  have HIN := Lib.hid hin
  clear hc hin
  go_enter Tryz.func114, Tryz.ntmps114
  go_wp2
  go_loopw [5, 6] (fun v i wr => ∃ j : Nat, j ≤ l.length ∧ i = .int .i64 j ∧ Hid (Keys wr v (srtK m (l.take j)) ∧ Below W.heap.size W wr)) (fun _ i _ => l.length - (intOf i).toNat)
  case atStart => exact ⟨0, by omega, rfl, Lib.hid ⟨⟨none, 0, rfl, ⟨Nat.le_refl _, Nat.zero_le _⟩, by simp [srtK], fun h => absurd rfl h⟩, Below.refl _ _⟩⟩
  case round =>
    obtain ⟨j, hj, rfl, HJ⟩ := hrel
    by_cases hlt : j < l.length
    · obtain ⟨x, hx⟩ : ∃ x, l.getD j (0, 0) = x := ⟨_, rfl⟩
      have c := HC.out j hlt
      rw [hx] at c
      have r0 := (HJ.out.2.cell (p := ⟨b, off + j * 2, none⟩) hb).trans c.1
      have r1 := (HJ.out.2.cell (p := ⟨b, off + j * 2 + 1, none⟩) hb).trans c.2
      have HXK : Hid (Kin x) := Lib.hid (by rw [← hx]; exact HIN.out _ (by simp [List.getD, hlt]))
      have HT := Lib.hid (by rw [take_snocK l j hlt, hx, srtK_more] : srtK m (l.take (j + 1)) = insK m x (srtK m (l.take j)))
      have HLN : Hid ((srtK m (l.take j)).length ≤ 1000) := Lib.hid (by rw [srtK_length, List.length_take]; omega)
      clear hx c
      go_wp2_with fail
      refine (rput_any m x HXK.out HJ.out.1 HLN.out).mono ?_
      rintro e' w1 ⟨⟨v1, rfl, hK1⟩, hb1⟩
      have HK1 := Lib.hid hK1
      have HB1 := Lib.hid (bOn HJ.out.2 hb1)
      clear hK1 hb1
      go_wp2
      exact ⟨⟨j + 1, by omega, by go_num, Lib.hid ⟨by rw [HT.out]; exact HK1.out, HB1.out⟩⟩, by simp [intOf]; omega⟩
    · obtain rfl : j = l.length := by omega
      have HJ2 := Lib.hid (by have h := HJ.out; rw [List.take_length] at h; exact h)
      go_wp2
      go_ret
      exact ⟨⟨_, rfl, HJ2.out.1⟩, HJ2.out.2⟩
set_option maxRecDepth 100000 in
theorem rsort_any (m : Int) {W : World} {v : Value} {l : List K} (h : Keys W v l) (hl : l.length ≤ 1000) :
    Calls Tryz.prog 114 #[.int .u64 m, v] W fun e w' => (∃ v', e = .returned v' ∧ Keys w' v' (srtK m l)) ∧ Below W.heap.size W w' := by
  rcases h.parts with ⟨rfl, a, cap, rfl⟩ | ⟨hp, b, off, cap, rfl, hcap, hb, hc⟩
  · refine (rsort_none m a cap W).mono ?_
    rintro e w' ⟨rfl, rfl⟩
    exact ⟨⟨_, rfl, ⟨none, 0, rfl, ⟨Nat.le_refl _, Nat.zero_le _⟩, by simp [srtK], fun h => absurd rfl h⟩⟩, Below.refl _ _⟩
  · exact rsort_some m hl h.kin hb hc

/-! ### Put -/
theorem atI_in {id : Int} {l : List K} (h : idxK id l < l.length) : atI id l = (idxK id l : Int) := by unfold atI; rw [if_pos h]
theorem atI_out {id : Int} {l : List K} (h : ¬ idxK id l < l.length) : atI id l = -1 := by unfold atI; rw [if_neg h]
theorem nil_keys (w : World) : Keys w (.slice none 0 0) [] := ⟨none, 0, rfl, ⟨Nat.le_refl _, Nat.zero_le _⟩, by simp, fun h => absurd rfl h⟩

end Go.Proofs.YtpmknpdnhfnfcaaGreatDoor
