/-
  Contracts of turnspitlaw11.Jobs and Picks: jobs and picks by numbers.
-/
import Derived.Test.YthbabhmpkniliaaLkW
import Derived.Deep.RegionLaw
namespace Go.Proofs.Ythbabhmpkniliaa
open Go.RowKit Go.ChangeAt Go.ChangeShapes Go.WideShapes Go.Sort Go.Deep Lk

/-- A section, by a number. -/
def secF (z : Int) : Pr := (z % 6, z / 6 % 6)
/-- How many jobs. -/
def manyF (zs : List Int) : Nat := if zs = [] then 2 else 2 + ((zs.getD 0 0) % 4).toNat
/-- Another section of a job. -/
def jobF (m : Nat) (js : List (List Pr)) (z : Int) : List (List Pr) := js.set (z / 36 % m).toNat (js.getD (z / 36 % m).toNat [] ++ [secF z])
def jobsK (zs : List Int) (k : Nat) : List (List Pr) := ((zs.take k).drop 1).foldl (jobF (manyF zs)) (List.replicate (manyF zs) [])
def jobsF (zs : List Int) : List (List Pr) := jobsK zs (min zs.length 20)
/-- Picks, by numbers. -/
def pickZ (m : Nat) (z : Int) : Int := z % m
def picksF (m : Nat) (zs : List Int) : List Int := (zs.take 300).map (pickZ m)

theorem pair_info : (Try.prog.info? 55).map (fun i => (i.zero, i.size, i.bytes)) = some (some (.agg #[.int .i64 0, .int .i64 0]), 2, 16) := by kernel_rfl
theorem jslice_info : (Try.prog.info? 41).map (fun i => (i.zero, i.size, i.bytes)) = some (some (.slice none 0 0), 1, 24) := by kernel_rfl
theorem u8_wf {n : Int} (h : (Lit.int .u8 n).wf = true) : 0 ≤ n ∧ n < 256 := by
  simp only [Lit.wf, IntKind.min, IntKind.max, IntKind.signed, IntKind.bits, Bool.and_eq_true] at h
  simp at h; omega
theorem u16_wf {n : Int} (h : (Lit.int .u16 n).wf = true) : 0 ≤ n ∧ n < 65536 := by
  simp only [Lit.wf, IntKind.min, IntKind.max, IntKind.signed, IntKind.bits, Bool.and_eq_true] at h
  simp at h; omega

set_option maxHeartbeats 1000000 in
set_option maxRecDepth 100000 in
theorem picks_any {W : World} {v : Value} {zs : List Int} (h : Ints .u8 W v zs) {m : Nat} (hm : 0 < m ∧ m ≤ 5) :
    Calls Try.prog 27 #[.int .i64 m, v] W fun e w' => (∃ v', e = .returned v' ∧ Own .i64 w' W.heap.size 3 v' (picksF m zs)) ∧ Below W.heap.size W w' := by
  rcases h.parts with ⟨rfl, a, cap, rfl⟩ | ⟨hp, hmx, b, off, cap, rfl, hbl, hc⟩
  · clear h
    go_enter Try.func27, Try.ntmps27
    go_wp2
    refine wp_loop_rounds 1 ?_
    rw [rounds_succ]
    go_wp2
    go_ret
    exact ⟨⟨_, rfl, Own.nil _ _ _ _⟩, Below.refl _ _⟩
  · have HC := Lib.hid hc
    have HW := Lib.hid h.wf
    have hl : zs.length ≤ 9223372036854775807 := by unfold maxLen at hmx; omega
    clear hc h hmx
    obtain ⟨hm0, hm5⟩ := hm
    go_enter Try.func27, Try.ntmps27
    go_wp2
    go_loopw [5, 6] (fun x u wr => ∃ i : Nat, i ≤ zs.length ∧ i ≤ 300 ∧ u = .int .i64 i ∧ Hid (Own .i64 wr W.heap.size 3 x ((zs.take i).map (pickZ m)) ∧ Below W.heap.size W wr)) (fun _ u _ => 300 - (intOf u).toNat)
    case atStart => exact ⟨0, by omega, by omega, rfl, Lib.hid ⟨Own.nil _ _ _ _, Below.refl _ _⟩⟩
    case round =>
      obtain ⟨i, hi, hi3, rfl, HR⟩ := hrel
      by_cases hlt : i < zs.length
      · by_cases h3 : i < 300
        · have hd3 : decide ((i : Int) < 300) = true := decide_eq_true (by omega)
          have c := (HR.out.2.cell (p := ⟨b, off + i, none⟩) hbl).trans (HC.out i hlt)
          obtain ⟨z, hz⟩ : ∃ z, zs.getD i 0 = z := ⟨_, rfl⟩
          rw [hz] at c
          have hzw := u8_wf (HW.out z (by rw [← hz]; simp [List.getD, hlt]))
          obtain ⟨n, rfl⟩ : ∃ n : Nat, z = n := ⟨z.toNat, by omega⟩
          have HZ := Lib.hid hz
          clear hz
          have HO := Lib.hid HR.out.1
          have HB := Lib.hid HR.out.2
          have HZI : Hid (I ((n : Int) % (m : Int))) := Lib.hid (by
            have h1 := Int.emod_nonneg (n : Int) (b := (m : Int)) (by omega)
            have h2 := Int.emod_lt_of_pos (n : Int) (b := (m : Int)) (by omega)
            unfold I; omega)
          have HI1 := Lib.hid (ints_new (k := .i64) wr 3 [(n : Int) % (m : Int)] (by simp [maxLen]) (by intro y hy; simp at hy; subst hy; exact i64_wf HZI.out))
          have HL : Hid (((zs.take i).map (pickZ m)).length ≤ 300) := Lib.hid (by rw [List.length_map, List.length_take]; omega)
          have HSN : Hid ((zs.take (i + 1)).map (pickZ m) = (zs.take i).map (pickZ m) ++ [(n : Int) % (m : Int)]) := Lib.hid (by
            rw [List.take_succ_eq_append_getElem hlt, List.map_append]
            congr 1
            have := HZ.out
            simp only [List.getD, List.getElem?_eq_getElem hlt, Option.getD_some] at this
            simp [pickZ, this])
          clear HR
          go_wp2_with (at_builtin; refine wpList_append_ints (k := .i64) (bytes := 8) rfl (.tmp 17) (.tmp 25) 22 rfl W.heap.size 3 Try.underlying22 ints_info (by decide) ((zs.take i).map (pickZ m)) [(n : Int) % (m : Int)] (HO.out.alloc _) HI1.out (by have := HL.out; simp only [List.length_cons, List.length_nil]; omega) (by have := HB.out.size; simp; omega) ?_; intro v' w2 hown2 hbel2)
          have hb2 : Below W.heap.size W w2 := (HB.out.alloc HB.out.size _).trans hbel2
          exact ⟨⟨i + 1, by omega, by omega, by go_num, Lib.hid ⟨by rw [HSN.out]; exact hown2, hb2⟩⟩, by simp [intOf]; omega⟩
        · obtain rfl : i = 300 := by omega
          have hd3 : decide (((300 : Nat) : Int) < 300) = false := by decide
          go_wp2
          go_ret
          exact ⟨⟨_, rfl, HR.out.1⟩, HR.out.2⟩
      · obtain rfl : i = zs.length := by omega
        have he : (zs.take zs.length).map (pickZ m) = picksF m zs := by unfold picksF; rw [List.take_length, List.take_of_length_le hi3]
        have HE := Lib.hid he
        clear he
        go_wp2
        go_ret
        exact ⟨⟨_, rfl, by rw [← HE.out]; exact HR.out.1⟩, HR.out.2⟩
end Go.Proofs.Ythbabhmpkniliaa
