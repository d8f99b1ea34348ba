/-
  The walk of WeightParts: true at every input, in every world that holds the table of weights; nothing that was there turns.
-/
import Derived.Test.YtlfcnhggleagaaaDoorWgtD
import Derived.Test.YtlfcnhggleagaaaDoorWgtN
import Derived.Test.YtlfcnhggleagaaaDoorSlA
namespace Go.Proofs.YtlfcnhggleagaaaDoor
open Go.RowKit Go.Shelf Wd Wg

theorem info_int : (Tryd.prog.info? 3).map (fun i => (i.zero, i.size, i.bytes)) = some (some (.int .i64 0), 1, 8) := by kernel_rfl

theorem take_map (zs : List Int) (k : Nat) (h : k < zs.length) (z : Int) (hz : zs.getD k 0 = z) : (zs.take (k + 1)).map nz = (zs.take k).map nz ++ [nz z] := by
  rw [List.take_add_one]
  have : zs[k]? = some z := by rw [← hz]; simp [List.getD, h]
  simp [this]

namespace weightParts
set_option maxHeartbeats 400000 in
theorem walk_else (a0 : Int) (a : Option Addr) (n cap : Nat) (hn : n = 0 ∨ 20 < n) (hm : n ≤ 9223372036854775807) (w : World) (hT : Tab w) :
    Calls Tryd.prog 8 #[.int .u64 a0, .slice a n cap] w fun e w' => e = .returned (.bool true) ∧ Below w.heap.size w w' := by
  have HT := Lib.hid hT
  clear hT
  rcases hn with rfl | hn
  · go_enter Tryd.func8, Tryd.ntmps8
    go_wp2_with fail
    refine (awake_any _ HT.out).mono ?_
    rintro e' w4 ⟨rfl, b4⟩
    go_wp2
    go_ret
    exact ⟨rfl, b4⟩
  · have h0 : ((n : Int) == 0) = false := by simp; omega
    go_enter Tryd.func8, Tryd.ntmps8
    go_wp2_with fail
    refine (awake_any _ HT.out).mono ?_
    rintro e' w4 ⟨rfl, b4⟩
    go_wp2
    go_ret
    exact ⟨rfl, b4⟩

set_option maxRecDepth 100000 in
set_option maxHeartbeats 2000000 in
theorem walk_some (a0 : Int) (u0 : U a0) (zs : List Int) (hp : 0 < zs.length) (hl : zs.length ≤ 20) (hw : ∀ z ∈ zs, 0 ≤ z ∧ z ≤ 255) (b off cap : Nat) (w : World) (hb : b < w.heap.size)
    (hc : ∀ i, i < zs.length → w.cell? ⟨b, off + i, none⟩ = some (.int .u8 (zs.getD i 0))) (hT : Tab w) :
    Calls Tryd.prog 8 #[.int .u64 a0, .slice (some ⟨b, off, none⟩) zs.length cap] w fun e w' => e = .returned (.bool true) ∧ Below w.heap.size w w' := by
  obtain ⟨t, ht⟩ : ∃ t, a0.tmod 1099511627776 = t := ⟨_, rfl⟩
  have htb : 0 ≤ t ∧ t < 1099511627776 := by rw [← ht, Int.tmod_eq_emod_of_nonneg u0.1]; omega
  obtain ⟨n, hn⟩ : ∃ n, zs.length = n := ⟨_, rfl⟩
  rw [hn] at hp hl hc ⊢
  have HN := Lib.hid hn
  have HC := Lib.hid hc
  have HT := Lib.hid hT
  have HW := Lib.hid hw
  have h0 : ((n : Int) == 0) = false := by simp; omega
  clear hn hc hT hw u0
  go_enter Tryd.func8, Tryd.ntmps8
  go_wp2_with fail
  refine (awake_any _ HT.out).mono ?_
  rintro e w1 ⟨rfl, b1⟩
  have HT1 := Lib.hid (HT.out.below b1)
  have hb1 : b < w1.heap.size := Nat.lt_of_lt_of_le hb b1.size
  have HC1 : Hid (∀ i, i < n → w1.cell? ⟨b, off + i, none⟩ = some (.int .u8 (zs.getD i 0))) := fun i hi => (b1.cell (p := ⟨b, off + i, none⟩) hb).trans (HC.out i hi)
  clear HC
  go_wp2
  go_loopw [7, 8] (fun v i wr => ∃ k : Nat, k ≤ n ∧ i = .int .i64 k ∧ Own .i64 wr w1.heap.size 3 v ((zs.take k).map nz) ∧ Below w1.heap.size w1 wr) (fun _ i _ => n - (intOf i).toNat)
  case atStart => exact ⟨0, by omega, rfl, Own.nil _ _ _ _, Below.refl _ _⟩
  case round =>
    obtain ⟨k, hk, rfl, hown, hnx⟩ := hrel
    by_cases hlt : k < n
    · have hck : wr.cell? ⟨b, off + k, none⟩ = some (.int .u8 (zs.getD k 0)) := (hnx.cell (p := ⟨b, off + k, none⟩) hb1).trans (HC1.out k hlt)
      obtain ⟨z, hz⟩ : ∃ z, zs.getD k 0 = z := ⟨_, rfl⟩
      have hzw : 0 ≤ z ∧ z ≤ 255 := by
        have hk' : k < zs.length := by have := HN.out; omega
        refine HW.out z ?_
        rw [← hz]
        simp [List.getD, hk']
      have HZ : Hid ((zs.take (k + 1)).map nz = (zs.take k).map nz ++ [nz z]) := take_map zs k (by have := HN.out; omega) z hz
      rw [hz] at hck
      have HL : Hid (((zs.take k).map nz).length ≤ 20) := by
        show ((zs.take k).map nz).length ≤ 20
        rw [List.length_map, List.length_take]; omega
      have HI := Lib.hid (ints_new (k := .i64) wr 3 [nz z] (by simp [maxLen]) (by intro y hy; simp at hy; subst hy; have := nz_nice z hzw.1; unfold isNice at this; exact i64_wf (by omega)))
      clear hz
      obtain ⟨y, hy⟩ : ∃ y, z.tmod 40 = y := ⟨_, rfl⟩
      have hm : 0 ≤ y ∧ y < 40 := by rw [← hy, Int.tmod_eq_emod_of_nonneg hzw.1]; omega
      have HM : Hid (nz z = -20 + y) := by show -20 + z.tmod 40 = -20 + y; rw [hy]
      rw [HM.out] at HI HZ
      have HOW := Lib.hid hown
      clear hown
      go_wp2_with (at_builtin; go_loud (refine wpList_append_ints (k := .i64) (bytes := 8) rfl (.tmp 34) (.tmp 42) 29 rfl w1.heap.size 3 Tryd.underlying29 info_int (by decide) ((zs.take k).map nz) [-20 + y] (HOW.out.alloc _) HI.out (by have := HL.out; simp only [List.length_cons, List.length_nil]; omega) (by have := hnx.size; simp; omega) ?_); intro v' w2 hown2 hbel2)
      have hb2 : Below w1.heap.size w1 w2 := (hnx.alloc hnx.size _).trans hbel2
      exact ⟨⟨k + 1, by omega, by go_num, by rw [HZ.out]; exact hown2, hb2⟩, by simp [intOf]; omega⟩
    · obtain rfl : k = n := by omega
      have HE : Hid (zs.take k = zs) := by have := HN.out; exact List.take_of_length_le (by omega)
      rw [HE.out] at hown
      have HA := Lib.hid (nz_all zs (fun z hz => (HW.out z hz).1))
      have hI := hown.ints (fun z hz => by have := HA.out z hz; unfold isNice at this; exact i64_wf (by omega))
      have HI := Lib.hid hI
      have HB := Lib.hid (bOn b1 hnx)
      have HT2 := Lib.hid (HT1.out.below hnx)
      have hlen : (zs.map nz).length = k := by rw [List.length_map]; exact HN.out
      have HNE : Hid (zs.map nz ≠ []) := by intro h; rw [h] at hlen; simp at hlen; omega
      obtain ⟨l, hl2⟩ : ∃ l, zs.map nz = l := ⟨_, rfl⟩
      rw [hl2] at hI HI HA HNE hlen hown
      rcases hI.parts with ⟨h, _⟩ | ⟨hp2, hm2, b2, off2, cap2, rfl, hb2, hc2⟩
      · exact absurd h HNE.out
      rw [hlen] at hI HI hc2 ⊢
      have HC2 := Lib.hid hc2
      have HLEN := Lib.hid hlen
      have HS := Lib.hid (fun j => shSum_le t htb.1 l HA.out HNE.out j)
      have HM := Lib.hid (shSum_most t htb.1 l HA.out HNE.out)
      obtain ⟨wo, rfl⟩ : ∃ wo, wo = wr := ⟨_, rfl⟩
      clear hown hI hc2 hlen hl2 HE HC1 HT HT1 HW HN hnx b1 hb1 hb h0 hp2 hm2
      go_wp2
      go_loopw [9, 10] (fun s i wr' => ∃ j : Nat, j ≤ k ∧ i = .int .i64 j ∧ s = .int .i64 (shSum t (sumW l) (l.take j)) ∧ Below wo.heap.size wo wr') (fun _ i _ => k - (intOf i).toNat)
      case atStart => exact ⟨0, by omega, rfl, rfl, Below.refl _ _⟩
      case round =>
        obtain ⟨j, hj, rfl, rfl, hnx⟩ := hrel
        have hsj := HS.out j
        by_cases hlt : j < k
        · have hcj : wr.cell? ⟨b2, off2 + j, none⟩ = some (.int .i64 (l.getD j 0)) := (hnx.cell (p := ⟨b2, off2 + j, none⟩) hb2).trans (HC2.out j hlt)
          have HJ : Hid (l.take (j + 1) = l.take j ++ [l.getD j 0] ∧ l.getD j 0 ∈ l) := by
            have hj' : j < l.length := by have := HLEN.out; omega
            refine ⟨?_, by simp [List.getD, hj']⟩
            rw [List.take_add_one]; simp [List.getD, hj']
          have hsj1 := HS.out (j + 1)
          have HJ2 : Hid (shSum t (sumW l) (l.take (j + 1)) = shSum t (sumW l) (l.take j) + t * wt (l.getD j 0) / sumW l) := by
            show shSum t (sumW l) (l.take (j + 1)) = _
            rw [HJ.out.1, shSum_snoc]
          rw [HJ2.out] at hsj1
          have HSH : Hid (shE t (l.getD j 0) l = 0) := shE_ok t _ l (by omega) (by omega) (HA.out _ HJ.out.2) (by have := HLEN.out; omega) HA.out HNE.out
          have hsh := share_yes t (l.getD j 0) _ l wr (HT2.out.below hnx) (HI.out.below hnx) HSH.out
          clear HSH
          generalize shSum t (sumW l) (l.take j) = s at *
          generalize t * wt (l.getD j 0) / sumW l = q at *
          generalize l.getD j 0 = x at *
          have HSH := Lib.hid hsh
          clear hsh
          go_wp2_with fail
          refine HSH.out.mono ?_
          rintro e w3 ⟨rfl, b3⟩
          go_wp2
          have hb3 := bOn hnx b3
          exact ⟨⟨j + 1, by omega, by go_num, by rw [HJ2.out], hb3⟩, by simp [intOf]; omega⟩
        · obtain rfl : j = k := by omega
          have HE : Hid (l.take j = l) := by have := HLEN.out; exact List.take_of_length_le (by omega)
          have hm := HM.out
          rw [HLEN.out] at hm
          rw [HE.out] at hsj
          rw [HE.out]
          generalize shSum t (sumW l) l = s at *
          clear HM HS
          go_wp2
          go_ret
          exact ⟨rfl, bOn HB.out hnx⟩

theorem walk (a0 : Int) (v : Value) (zs : List Int) (w : World) (w0 : (Lit.int .u64 a0).wf = true) (hv : Ints .u8 w v zs) (hT : Tab w) :
    Calls Tryd.prog 8 #[.int .u64 a0, v] w fun e w' => e = .returned (.bool true) ∧ Below w.heap.size w w' := by
  have hw : ∀ z ∈ zs, 0 ≤ z ∧ z ≤ 255 := fun z hz => bounds_u8 (hv.wf z hz)
  by_cases h : zs.length = 0 ∨ 20 < zs.length
  · obtain ⟨a, cap, rfl, hm, -, -⟩ := hv
    exact walk_else a0 a zs.length cap h (by unfold maxLen at hm; omega) w hT
  · rcases hv.parts with ⟨rfl, _⟩ | ⟨hp, hm, b, off, cap, rfl, hb, hc⟩
    · simp at h
    · exact walk_some a0 (U_of_wf w0) zs hp (by omega) hw b off cap w hb hc hT
end weightParts
end Go.Proofs.YtlfcnhggleagaaaDoor
