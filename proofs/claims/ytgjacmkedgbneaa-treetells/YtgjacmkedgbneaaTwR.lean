/-
  Contract of the laws' awake.
-/
import Derived.Test.YtgjacmkedgbneaaTrC
namespace Go.Proofs.Ytgjacmkedgbneaa
open Go.RowKit Go.Sort Ky Wd Tn Tr

theorem Insert_s {W : World} {v : Value} {t t' : T} {m : Int} {k : K} {e : Int} (hN : Nds W v t.ns) (hkin : Kin k) (hI : Ins m k t t' e) :
    Calls Try.prog 11 #[.agg #[.int .i64 t.root, v], .int .u64 m, .agg #[.int .u64 k.1, .int .i64 k.2]] W fun en w' => ∃ a cap, en = .returned (.tuple #[.agg #[.int .i64 t'.root, .slice a t'.ns.length cap], .int .i64 e]) ∧ Nds w' (.slice a t'.ns.length cap) t'.ns ∧ Below W.heap.size W w' := by
  refine (Insert_at hN hkin hI).mono ?_
  rintro en w' ⟨⟨v', rfl, hn⟩, hb⟩
  obtain ⟨a, cap, rfl, -, -⟩ := hn.len
  exact ⟨a, cap, rfl, hn, hb⟩
theorem Delete_s {W : World} {v : Value} {t t' : T} {m : Int} {z : Int} {e : Int} (hN : Nds W v t.ns) (hI : Del m z t t' e) :
    Calls Try.prog 13 #[.agg #[.int .i64 t.root, v], .int .u64 m, .int .i64 z] W fun en w' => ∃ a cap, en = .returned (.tuple #[.agg #[.int .i64 t'.root, .slice a t'.ns.length cap], .int .i64 e]) ∧ Nds w' (.slice a t'.ns.length cap) t'.ns ∧ Below W.heap.size W w' := by
  refine (Delete_at hN hI).mono ?_
  rintro en w' ⟨⟨v', rfl, hn⟩, hb⟩
  obtain ⟨a, cap, rfl, -, -⟩ := hn.len
  exact ⟨a, cap, rfl, hn, hb⟩
theorem New_s (n : Int) (W : World) :
    Calls Try.prog 25 #[.int .i64 n] W fun en w' => ∃ a cap, en = .returned (.tuple #[.agg #[.int .i64 (newT n).root, .slice a (newT n).ns.length cap], .int .i64 (newE n)]) ∧ Nds w' (.slice a (newT n).ns.length cap) (newT n).ns ∧ Below W.heap.size W w' := by
  refine (New_at n W).mono ?_
  rintro en w' ⟨⟨v', rfl, hn⟩, hb⟩
  obtain ⟨a, cap, rfl, -, -⟩ := hn.len
  exact ⟨a, cap, rfl, hn, hb⟩
theorem bOnA {B : Nat} {a b c : World} (h : Below B a b) (k : Below b.heap.size b c) (hB : B ≤ a.heap.size) : Below B a c := h.trans (k.mono (Nat.le_trans hB h.size))

set_option maxHeartbeats 4000000 in
set_option maxRecDepth 100000 in
theorem awake_at (W : World) : Calls Try.prog 10 #[] W fun e w' => e = .returned (.bool true) ∧ Below W.heap.size W w' := by
  have hk1 : Kin (9, 1) := ⟨⟨by decide, by decide⟩, by unfold I; decide⟩
  have hk2 : Kin (9, 2) := ⟨⟨by decide, by decide⟩, by unfold I; decide⟩
  have hk3 : Kin (9, 3) := ⟨⟨by decide, by decide⟩, by unfold I; decide⟩
  have hk4 : Kin (1, 2) := ⟨⟨by decide, by decide⟩, by unfold I; decide⟩
  have K1 := Lib.hid hk1
  have K2 := Lib.hid hk2
  have K3 := Lib.hid hk3
  have K4 := Lib.hid hk4
  clear hk1 hk2 hk3 hk4
  have HNW := Lib.hid (New_s 4 W)
  rw [new4.1, new4.2] at HNW
  change Hid (Calls Try.prog _ _ _ fun en w' => ∃ a cap, en = .returned (.tuple #[.agg #[.int .i64 (-1), .slice a 4 cap], .int .i64 0]) ∧ Nds w' (.slice a 4 cap) t0.ns ∧ Below W.heap.size W w') at HNW
  go_enter Try.func10, Try.ntmps10
  go_wp2_with fail
  refine HNW.out.mono ?_
  rintro e' w1 ⟨a1, cap1, rfl, hn1, hb1⟩
  have HN1 := Lib.hid hn1
  have HB1 := Lib.hid (hb1.alloc hb1.size (.cells #[.int .i64 (-1), .slice a1 4 cap1] 24))
  have HI1 := Lib.hid (Insert_s (hn1.below ((Below.refl _ _).alloc (Nat.le_refl _) (.cells #[.int .i64 (-1), .slice a1 4 cap1] 24))) K1.out insA)
  change Hid (Calls Try.prog _ #[.agg #[.int .i64 (-1), .slice a1 4 cap1], .int .u64 0, .agg #[.int .u64 9, .int .i64 1]] _ fun en w' => ∃ a cap, en = .returned (.tuple #[.agg #[.int .i64 1, .slice a 4 cap], .int .i64 0]) ∧ Nds w' (.slice a 4 cap) tA.ns ∧ Below _ _ w') at HI1
  clear HNW hn1 hb1
  go_wp2_with fail
  refine HI1.out.mono ?_
  rintro e' w2 ⟨a2, cap2, rfl, hn2, hb2⟩
  have HB2' := Lib.hid (bOnA HB1.out hb2 (Nat.le_refl _))
  have HB2 := Lib.hid (HB2'.out.alloc HB2'.out.size (.cells #[.int .i64 1, .slice a2 4 cap2] 24))
  have HI2 := Lib.hid (Insert_s (hn2.below ((Below.refl _ _).alloc (Nat.le_refl _) (.cells #[.int .i64 1, .slice a2 4 cap2] 24))) K2.out insB)
  change Hid (Calls Try.prog _ #[.agg #[.int .i64 1, .slice a2 4 cap2], .int .u64 0, .agg #[.int .u64 9, .int .i64 2]] _ fun en w' => ∃ a cap, en = .returned (.tuple #[.agg #[.int .i64 1, .slice a 4 cap], .int .i64 0]) ∧ Nds w' (.slice a 4 cap) tB.ns ∧ Below _ _ w') at HI2
  clear HI1 hn2 hb2 HB1 HN1 HB2'
  go_wp2_with fail
  refine HI2.out.mono ?_
  rintro e' w3 ⟨a3, cap3, rfl, hn3, hb3⟩
  have HB3' := Lib.hid (bOnA HB2.out hb3 (Nat.le_refl _))
  have HB3 := Lib.hid (HB3'.out.alloc HB3'.out.size (.cells #[.int .i64 1, .slice a3 4 cap3] 24))
  have HI3 := Lib.hid (Insert_s (hn3.below ((Below.refl _ _).alloc (Nat.le_refl _) (.cells #[.int .i64 1, .slice a3 4 cap3] 24))) K3.out insC)
  change Hid (Calls Try.prog _ #[.agg #[.int .i64 1, .slice a3 4 cap3], .int .u64 0, .agg #[.int .u64 9, .int .i64 3]] _ fun en w' => ∃ a cap, en = .returned (.tuple #[.agg #[.int .i64 2, .slice a 4 cap], .int .i64 0]) ∧ Nds w' (.slice a 4 cap) tC.ns ∧ Below _ _ w') at HI3
  clear HI2 hn3 hb3 HB2 HB3'
  go_wp2_with fail
  refine HI3.out.mono ?_
  rintro e' w4 ⟨a4, cap4, rfl, hn4, hb4⟩
  have HB4' := Lib.hid (bOnA HB3.out hb4 (Nat.le_refl _))
  have HB4 := Lib.hid (HB4'.out.alloc HB4'.out.size (.cells #[.int .i64 2, .slice a4 4 cap4] 24))
  have HTC := Lib.hid (Tb.new w4 2 (.slice a4 4 cap4) 24)
  have HNC := Lib.hid (hn4.below ((Below.refl _ _).alloc (Nat.le_refl _) (.cells #[.int .i64 2, .slice a4 4 cap4] 24)))
  clear HI3 hn4 hb4 HB3 HB4'
  have HD1 := Lib.hid (Delete_s HNC.out delD)
  change Hid (Calls Try.prog _ #[.agg #[.int .i64 2, .slice a4 4 cap4], .int .u64 0, .int .i64 2] _ fun en w' => ∃ a cap, en = .returned (.tuple #[.agg #[.int .i64 3, .slice a 4 cap], .int .i64 0]) ∧ Nds w' (.slice a 4 cap) tD.ns ∧ Below _ _ w') at HD1
  go_wp2_with fail
  generalize hqc : w4.heap.size = qc at HTC ⊢
  clear hqc
  generalize w4.alloc (.cells #[.int .i64 2, .slice a4 4 cap4] 24) = w5 at HTC HNC HB4 HD1 ⊢
  refine HD1.out.mono ?_
  rintro e' w6 ⟨a6, cap6, rfl, hn6, hb6⟩
  have HB6' := Lib.hid (bOnA HB4.out hb6 (Nat.le_refl _))
  have HB6 := Lib.hid (HB6'.out.alloc HB6'.out.size (.cells #[.int .i64 3, .slice a6 4 cap6] 24))
  have HA6 := Lib.hid ((Below.refl w6.heap.size w6).alloc (Nat.le_refl _) (.cells #[.int .i64 3, .slice a6 4 cap6] 24))
  have HTD := Lib.hid (Tb.new w6 3 (.slice a6 4 cap6) 24)
  have HND := Lib.hid (hn6.below HA6.out)
  have HTC6 := Lib.hid ((HTC.out.below hb6 HTC.out.lt).below HA6.out (HTC.out.below hb6 HTC.out.lt).lt)
  have HNC6 := Lib.hid ((HNC.out.below hb6).below HA6.out)
  clear HD1 hn6 hb6 HB4 HB6' HTC HNC HA6
  have HD2 := Lib.hid (Delete_s HND.out delJ)
  change Hid (Calls Try.prog _ #[.agg #[.int .i64 3, .slice a6 4 cap6], .int .u64 0, .int .i64 2] _ fun en w' => ∃ a cap, en = .returned (.tuple #[.agg #[.int .i64 0, .slice a 0 cap], .int .i64 8]) ∧ Nds w' (.slice a 0 cap) [] ∧ Below _ _ w') at HD2
  go_wp2_with fail
  generalize hqd : w6.heap.size = qd at HTD ⊢
  clear hqd
  generalize w6.alloc (.cells #[.int .i64 3, .slice a6 4 cap6] 24) = w7 at HTD HND HTC6 HNC6 HB6 HD2 ⊢
  refine HD2.out.mono ?_
  rintro e' w8 ⟨a8, cap8, rfl, hn8, hb8⟩
  have HX8 := Lib.hid (hb8.alloc hb8.size (.cells #[.int .i64 0, .slice a8 0 cap8] 24))
  have HB8 := Lib.hid (bOnA HB6.out HX8.out (Nat.le_refl _))
  have HTC8 := Lib.hid (HTC6.out.below HX8.out HTC6.out.lt)
  have HNC8 := Lib.hid (HNC6.out.below HX8.out)
  have HTD8 := Lib.hid (HTD.out.below HX8.out HTD.out.lt)
  have HND8 := Lib.hid (HND.out.below HX8.out)
  clear HD2 hn8 hb8 HX8 HB6 HTC6 HNC6 HTD HND
  go_upto_region 7 with fail
  generalize w8.alloc (.cells #[.int .i64 0, .slice a8 0 cap8] 24) = w9 at HTC8 HNC8 HTD8 HND8 HB8 ⊢
  obtain ⟨c0, c1, -, -⟩ := HTC8.out.all
  have HI4 := Lib.hid (Insert_s HNC8.out K4.out insK)
  change Hid (Calls Try.prog _ #[.agg #[.int .i64 2, .slice a4 4 cap4], .int .u64 0, .agg #[.int .u64 1, .int .i64 2]] _ fun en w' => ∃ a cap, en = .returned (.tuple #[.agg #[.int .i64 0, .slice a 0 cap], .int .i64 1]) ∧ Nds w' (.slice a 0 cap) [] ∧ Below _ _ w') at HI4
  go_wp2_with fail
  refine HI4.out.mono ?_
  rintro e' w10 ⟨a10, cap10, rfl, hn10, hb10⟩
  have HX10 := Lib.hid (hb10.alloc hb10.size (.cells #[.int .i64 0, .slice a10 0 cap10] 24))
  have HB10 := Lib.hid (bOnA HB8.out HX10.out (Nat.le_refl _))
  have HTC10 := Lib.hid (HTC8.out.below HX10.out HTC8.out.lt)
  have HNC10 := Lib.hid (HNC8.out.below HX10.out)
  have HTD10 := Lib.hid (HTD8.out.below HX10.out HTD8.out.lt)
  have HND10 := Lib.hid (HND8.out.below HX10.out)
  clear HI4 hn10 hb10 HX10 HB8 HTC8 HNC8 HTD8 HND8 c0 c1
  go_upto_region 8 with fail
  generalize w10.alloc (.cells #[.int .i64 0, .slice a10 0 cap10] 24) = w11 at HTC10 HNC10 HTD10 HND10 HB10 ⊢
  obtain ⟨c0, c1, -, -⟩ := HTC10.out.all
  have HFI := Lib.hid (First_at HNC10.out (t := tC) (.inl ⟨_, wC, rfl⟩))
  change Hid (Calls Try.prog _ #[.agg #[.int .i64 2, .slice a4 4 cap4]] _ fun e w' => e = .returned (.tuple #[.agg #[.int .u64 9, .int .i64 1], .bool true]) ∧ Below _ _ w') at HFI
  go_wp2_with fail
  refine HFI.out.mono ?_
  rintro e' w12 ⟨rfl, hb12⟩
  have HX12 := Lib.hid (hb12.alloc hb12.size (.cells #[.int .u64 9, .int .i64 1] 27))
  have HB12 := Lib.hid (bOnA HB10.out HX12.out (Nat.le_refl _))
  have HTC12 := Lib.hid (HTC10.out.below HX12.out HTC10.out.lt)
  have HNC12 := Lib.hid (HNC10.out.below HX12.out)
  have HTD12 := Lib.hid (HTD10.out.below HX12.out HTD10.out.lt)
  have HND12 := Lib.hid (HND10.out.below HX12.out)
  have HKF := Lib.hid (Kb.new w12 (9, 1))
  clear HFI hb12 HX12 HB10 HTC10 HNC10 HTD10 HND10 c0 c1
  go_upto_region 11 with fail
  generalize hqf : w12.heap.size = qf at HKF ⊢
  clear hqf
  generalize w12.alloc (.cells #[.int .u64 9, .int .i64 1] 27) = w13 at HTC12 HNC12 HTD12 HND12 HB12 HKF ⊢
  obtain ⟨c0, c1, -, -⟩ := HTC12.out.all
  obtain ⟨d0, d1, -, -⟩ := HTD12.out.all
  obtain ⟨f0, f1, -, -, -⟩ := HKF.out.all
  rcases HNC12.out.parts with ⟨h0, -⟩ | ⟨-, nb, off, cap', hv, hcc, -, hnc⟩
  · cases h0
  · simp only [Value.slice.injEq] at hv
    obtain ⟨rfl, -, rfl⟩ := hv
    have m1 := (hnc 1 (by decide)).2.1
    have m3 := (hnc 3 (by decide)).2.1
    change w13.cell? _ = some (.bool true) at m1
    change w13.cell? _ = some (.bool true) at m3
    change 4 ≤ cap4 ∧ cap4 ≤ maxLen at hcc
    unfold maxLen at hcc
    have HWK := Lib.hid (Walk_at HND12.out (t := tD) (.inl ⟨_, wD, rfl⟩))
    change Hid (Calls Try.prog _ #[.agg #[.int .i64 3, .slice a6 4 cap6]] _ fun e w' => (∃ vs, e = .returned vs ∧ Keys w' vs [(9, 1), (9, 3)]) ∧ Below _ _ w') at HWK
    clear hnc
    go_wp2_with fail
    refine HWK.out.mono ?_
    rintro e' w14 ⟨⟨vs, rfl, hK⟩, hb14⟩
    obtain ⟨a14, cap14, rfl, hc14, -, -⟩ := hK
    have HB14 := Lib.hid (bOnA HB12.out hb14 (Nat.le_refl _))
    have HTC14 := Lib.hid (HTC12.out.below hb14 HTC12.out.lt)
    have HNC14 := Lib.hid (HNC12.out.below hb14)
    have HTD14 := Lib.hid (HTD12.out.below hb14 HTD12.out.lt)
    have HND14 := Lib.hid (HND12.out.below hb14)
    clear HWK hb14 HB12 HTC12 HNC12 HTD12 HND12 HKF c0 c1 d0 d1 f0 f1 m1 m3
    obtain ⟨c0, c1, -, -⟩ := HTC14.out.all
    have HHE := Lib.hid (Height_at HNC14.out (t := tC) (n := 2) (.inl ⟨_, wC, rfl⟩))
    change Hid (Calls Try.prog _ #[.agg #[.int .i64 2, .slice (some ⟨nb, off, none⟩) 4 cap4]] _ fun e w' => e = .returned (.int .i64 2) ∧ Below _ _ w') at HHE
    change [((9 : Int), (1 : Int)), (9, 3)].length ≤ cap14 ∧ _ at hc14
    go_wp2_with fail
    refine HHE.out.mono ?_
    rintro e' w15 ⟨rfl, hb15⟩
    have HB15 := Lib.hid (bOnA HB14.out hb15 (Nat.le_refl _))
    have HTD15 := Lib.hid (HTD14.out.below hb15 HTD14.out.lt)
    have HND15 := Lib.hid (HND14.out.below hb15)
    clear HHE hb15 HB14 HTC14 HNC14 HTD14 HND14 c0 c1
    obtain ⟨d0, d1, -, -⟩ := HTD15.out.all
    have HRI := Lib.hid (Right_at HND15.out (t := tD) 0 true (by simpa using rD))
    change Hid (Calls Try.prog _ #[.agg #[.int .i64 3, .slice a6 4 cap6], .int .u64 0] _ fun e w' => e = .returned (.bool true) ∧ Below _ _ w') at HRI
    go_wp2_with fail
    refine HRI.out.mono ?_
    rintro e' w16 ⟨rfl, hb16⟩
    have HB16 := Lib.hid (bOnA HB15.out hb16 (Nat.le_refl _))
    clear HRI hb16 d0 d1
    go_wp2
    go_ret
    exact ⟨rfl, HB16.out⟩
end Go.Proofs.Ytgjacmkedgbneaa
