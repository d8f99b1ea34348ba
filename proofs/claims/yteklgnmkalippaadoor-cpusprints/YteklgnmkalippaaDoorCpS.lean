/-
  Contracts of turnspitref05's Parse.
-/
import Derived.Test.YteklgnmkalippaaDoorCpR
namespace Go.Proofs.YteklgnmkalippaaDoor
open Go.RowKit Go.Shelf Mk Cp
attribute [local go_sem] Oper.semAt_some

/-- All from a on, below k. -/
def rt (a k : Nat) : Nat := andN (allM (k : Int)) (allM (a : Int))
theorem V_rt (a k : Nat) : V (rt a k) := V_andN (V_all _)
theorem tb_rt (a k i : Nat) (hi : i < 64) : (rt a k).testBit i = (decide (a ≤ i) && decide (i < k)) := by
  unfold rt
  rw [tb_andN _ _ (V_all _) (V_all _), tb_all, tb_all]
  by_cases h1 : a ≤ i
  · have a1 : ¬ (i : Int) < a := by omega
    by_cases h2 : i < k
    · have a2 : (i : Int) < k := by omega
      simp [*]
    · have a2 : ¬ (i : Int) < k := by omega
      simp [*]
  · have a1 : (i : Int) < a := by omega
    simp [*]
theorem rt_self (a : Nat) : rt a a = 0 := by
  refine ext (V_rt _ _) V_zero fun i hi => ?_
  rw [tb_rt _ _ _ hi]
  by_cases h : a ≤ i
  · have : ¬ i < a := by omega
    simp [this]
  · simp [h]
theorem rt_rng (a b : Nat) : rt a (b + 1) = rng a b := by
  unfold rt rng
  have : ((b + 1 : Nat) : Int) = (b : Int) + 1 := by omega
  rw [this]
theorem rt_step (x a k : Nat) (h : a ≤ k) (hk : k < 64) : wit (x ||| rt a k) (k : Int) = x ||| rt a (k + 1) := by
  unfold wit
  rw [Nat.or_assoc]
  congr 1
  refine ext (V_or (V_rt _ _) (V_bt _)) (V_rt _ _) fun i hi => ?_
  rw [Nat.testBit_or, tb_rt _ _ _ hi, tb_rt _ _ _ hi, tb_bt]
  by_cases h1 : i = k
  · subst h1
    simp [h, hi]
  · have a1 : ¬ (k : Int) = i := by omega
    by_cases h2 : i < k
    · have a2 : i < k + 1 := by omega
      simp [a1, a2, h2]
    · have a2 : ¬ i < k + 1 := by omega
      simp [a1, a2, h2]
theorem splitB_len (c : UInt8) (l : List UInt8) : (splitB c l).length ≤ l.length + 1 ∧ ∀ p ∈ splitB c l, p.length ≤ l.length := by
  induction l with
  | nil => simp [splitB]
  | cons b l ih =>
    rw [splitB]
    split
    · refine ⟨by simp; omega, fun p hp => ?_⟩
      rcases List.mem_cons.1 hp with rfl | hp
      · simp
      · have := ih.2 p hp
        simp; omega
    · cases hs : splitB c l with
      | nil => exact absurd hs (splitB_ne c l)
      | cons h t =>
        rw [hs] at ih
        refine ⟨by simp at ih ⊢; omega, fun p hp => ?_⟩
        rcases List.mem_cons.1 hp with rfl | hp
        · have := ih.2 h (by simp)
          simp; omega
        · have := ih.2 p (by simp [hp])
          simp; omega
theorem take_piece (ts : List (List UInt8)) (j : Nat) (h : j < ts.length) : ts.take (j + 1) = ts.take j ++ [ts.getD j []] := by
  rw [List.take_succ_eq_append_getElem h]
  simp [List.getD, h]
theorem mem_piece (ts : List (List UInt8)) (j : Nat) (h : j < ts.length) : ts.getD j [] ∈ ts := by
  simp [List.getD, h]

set_option maxRecDepth 100000 in
set_option maxHeartbeats 8000000 in
theorem rparse_main (l : List UInt8) (hl : l.length ≤ 1000) (h2 : l ≠ [45]) (w : World) :
    Calls Tryd.prog 14 #[.string (st l)] w fun e w' => e = .returned (.tuple #[.int .u64 (parseM l : Nat), .int .i64 (parseE l)]) ∧ Below w.heap.size w w' := by
  obtain ⟨n, hn⟩ : ∃ n, n = l.length := ⟨_, rfl⟩
  have hz : (st l).size = n := by rw [st_size, hn]
  have hn2 : n ≤ 1000 := by omega
  have hn3 : decide (1000 < (n : Int)) = false := by simp; omega
  have H : Hid (parseM l = psI l ∧ parseE l = if psB l then 0 else 3) := by
    have hh : ¬ 1000 < l.length := by omega
    unfold Hid parseM parseE; simp only [if_neg hh, if_neg h2]; exact ⟨rfl, rfl⟩
  have hq := st_one_ne h2
  have HL := Lib.hid hl
  clear hn hl h2
  go_enter Tryd.func14, Tryd.ntmps14
  go_wp2_with fail
  refine (split_any l 44 44 rfl (by have := HL.out; omega) _).mono ?_
  rintro e w1 ⟨v, rfl, hO, hb1⟩
  obtain ⟨g, cap, rfl, -, hg, hcell⟩ := hO.parts (splitB_ne 44 l)
  have B1 := Lib.hid hb1
  have HC := Lib.hid hcell
  have HG := Lib.hid hg
  have hsl := (splitB_len 44 l).1
  obtain ⟨N, hN⟩ : ∃ N, N = (splitB 44 l).length := ⟨_, rfl⟩
  rw [← hN]
  have hN2 : N ≤ 1001 := by have := HL.out; omega
  have HN := Lib.hid hN
  clear hO hb1 hg hcell hsl hN
  go_wp2
  go_loopw [4, 6] (fun m i wr => ∃ (j x : Nat), j ≤ N ∧ i = .int .i64 j ∧ m = .int .u64 (x : Nat) ∧ V x ∧ foldI 0 ((splitB 44 l).take j) = some x ∧ Below w1.heap.size w1 wr) (fun _ i _ => N - (intOf i).toNat)
  case atStart => exact ⟨0, 0, by omega, rfl, rfl, V_zero, rfl, Below.refl _ _⟩
  case round =>
    obtain ⟨j, x, hj, rfl, rfl, hx, hF, hbw⟩ := hrel
    have HX := Lib.hid hx
    have HF := Lib.hid hF
    have BW := Lib.hid hbw
    clear hx hF hbw
    by_cases hlt : j < N
    · have hjl : j < (splitB 44 l).length := by have := HN.out; omega
      have hc0 := (BW.out.cell (p := ⟨g, j, none⟩) HG.out).trans (HC.out j hjl)
      have HTk := Lib.hid (take_piece (splitB 44 l) j hjl)
      have HMem := Lib.hid (mem_piece (splitB 44 l) j hjl)
      obtain ⟨y, hy⟩ : ∃ y, (splitB 44 l).getD j [] = y := ⟨_, rfl⟩
      rw [hy] at hc0 HTk HMem
      have HLy : Hid (y.length ≤ 100000) := by
        have h1 := (splitB_len 44 l).2 y HMem.out
        have := HL.out
        unfold Hid; omega
      clear hy hjl
      go_wp2_with fail
      refine (split_any y 45 45 rfl HLy.out _).mono ?_
      rintro e2 w2 ⟨v2, rfl, hO2, hb2⟩
      obtain ⟨g2, cap2, rfl, -, hg2, hcell2⟩ := hO2.parts (splitB_ne 45 y)
      have B2 : Hid (Below w1.heap.size w1 w2) := bOn BW.out hb2
      have LLy := (splitB_len 45 y).2
      clear hb2 hO2 hg2 hc0
      by_cases d0 : 45 ∈ y
      · obtain ⟨u, v, hyv, hu⟩ := parts d0
        have hsp : splitB 45 y = u :: splitB 45 v := by rw [hyv, splitB_at v hu]
        have HH0 : hd 45 y = u := by rw [hyv, hd_at hu]
        have HS0 : second y = v := by unfold second; rw [if_pos d0, hyv, tl_at hu]
        have hul := LLy u (by rw [hsp]; simp)
        have hc1 := hcell2 0 (by rw [hsp]; simp)
        rw [show (splitB 45 y).getD 0 [] = u by rw [hsp]; rfl] at hc1
        by_cases d1 : 45 ∈ v
        · obtain ⟨u2, v2, hyv2, hu2⟩ := parts d1
          have hsp2 : splitB 45 v = u2 :: splitB 45 v2 := by rw [hyv2, splitB_at v2 hu2]
          have hu2l := LLy u2 (by rw [hsp, hsp2]; simp)
          obtain ⟨K, hK⟩ : ∃ K, K = (splitB 45 y).length := ⟨_, rfl⟩
          have hK3 : 2 < K := by
            rw [hK, hsp, hsp2]
            have := List.length_pos_iff.2 (splitB_ne 45 v2)
            simp; omega
          have hK4 : K ≤ 100001 := by
            rw [hK]
            have := (splitB_len 45 y).1
            have := HLy.out
            omega
          have hc2 := hcell2 1 (by omega)
          rw [show (splitB 45 y).getD 1 [] = u2 by rw [hsp, hsp2]; rfl] at hc2
          have HH : Hid (itemN y = none) := by
            unfold Hid itemN
            rw [HS0, cpuN_bad (c := 45) d1 (by decide), pairN_none]
          have HSn : Hid True := trivial
          rw [← hK]
          have HUl : Hid (u.length ≤ 100000) := by have := HLy.out; unfold Hid; omega
          have HU2l : Hid (u2.length ≤ 100000) := by have := HLy.out; unfold Hid; omega
          clear hcell2 LLy hyv hyv2 hu hu2 hsp hsp2 HH0 HS0 hul hu2l hK d0 d1
          go_wp2_with fail
          refine (number_any u HUl.out _).mono ?_
          rintro e3 w3 ⟨rfl, rfl⟩
          go_wp2_with fail
          refine (number_any u2 HU2l.out _).mono ?_
          rintro e3 w3 ⟨rfl, rfl⟩
          generalize numI u = i1
          generalize numI u2 = i2
          have HB3 : Hid (parseM l = 0 ∧ parseE l = 3) := by
            have : parseI l = none := foldI_bad _ HMem.out HH.out
            obtain ⟨e1, e2⟩ := ps_no this
            unfold Hid; rw [H.out.1, H.out.2, e1, e2]; exact ⟨rfl, rfl⟩
          clear HH HSn
          go_wp2
          go_ret2
          exact ⟨by rw [HB3.out.1, HB3.out.2]; rfl, bOn B1.out B2.out⟩
        · have hsp2 : splitB 45 y = [u, v] := by rw [hsp, splitB_no d1]
          have hvl := LLy v (by rw [hsp2]; simp)
          have hc2 := hcell2 1 (by rw [hsp2]; simp)
          rw [show (splitB 45 y).getD 1 [] = v by rw [hsp2]; rfl] at hc2
          have hK : (splitB 45 y).length = 2 := by rw [hsp2]; rfl
          rw [hK]
          have HUl : Hid (u.length ≤ 100000) := by have := HLy.out; unfold Hid; omega
          have HVl : Hid (v.length ≤ 100000) := by have := HLy.out; unfold Hid; omega
          have HHd := Lib.hid HH0
          have HSd := Lib.hid HS0
          clear hcell2 LLy hyv hu hsp hsp2 HH0 HS0 hul hvl hK d0 d1
          go_wp2_with fail
          refine (number_any u HUl.out _).mono ?_
          rintro e3 w3 ⟨rfl, rfl⟩
          go_wp2_with fail
          refine (number_any v HVl.out _).mono ?_
          rintro e3 w3 ⟨rfl, rfl⟩
          cases hcu : cpuN u with
          | none =>
            rw [num_no hcu]
            have HH : Hid (itemN y = none) := by unfold Hid itemN; rw [HHd.out, hcu]; rfl
            have HSn : Hid True := trivial
            clear hcu
            generalize numI v = i2
            have HB3 : Hid (parseM l = 0 ∧ parseE l = 3) := by
              have : parseI l = none := foldI_bad _ HMem.out HH.out
              obtain ⟨e1, e2⟩ := ps_no this
              unfold Hid; rw [H.out.1, H.out.2, e1, e2]; exact ⟨rfl, rfl⟩
            clear HH HSn
            go_wp2
            go_ret2
            exact ⟨by rw [HB3.out.1, HB3.out.2]; rfl, bOn B1.out B2.out⟩
          | some A =>
            rw [num_at hcu]
            have hA := (cpuN_some hcu).1
            cases hcv : cpuN v with
            | none =>
              rw [num_no hcv]
              have HH : Hid (itemN y = none) := by unfold Hid itemN; rw [HSd.out, hcv, pairN_none]
              have HSn : Hid True := trivial
              clear hcu hcv
              have HB3 : Hid (parseM l = 0 ∧ parseE l = 3) := by
                have : parseI l = none := foldI_bad _ HMem.out HH.out
                obtain ⟨e1, e2⟩ := ps_no this
                unfold Hid; rw [H.out.1, H.out.2, e1, e2]; exact ⟨rfl, rfl⟩
              clear HH HSn
              go_wp2
              go_ret2
              exact ⟨by rw [HB3.out.1, HB3.out.2]; rfl, bOn B1.out B2.out⟩
            | some B =>
              rw [num_at hcv]
              have hB := (cpuN_some hcv).1
              by_cases hab : A ≤ B
              · have HH : Hid (cpuN (hd 45 y) = some A) := by unfold Hid; rw [HHd.out, hcu]
                have HSn : Hid (cpuN (second y) = some B) := by unfold Hid; rw [HSd.out, hcv]
                have hd1 : decide (B < A) = false := by simp; omega
                clear hcu hcv HHd HSd
                have HI : Hid (itemN y = some (rng A B)) := by unfold Hid itemN; rw [HH.out, HSn.out]; simp [pairN, hab]
                clear HH HSn
                go_wp2
                go_loop [4, 10] (fun m c => ∃ k : Nat, A ≤ k ∧ k ≤ B + 1 ∧ c = .int .i64 k ∧ m = .int .u64 ((x ||| rt A k : Nat) : Int)) (fun _ c => B + 1 - (intOf c).toNat)
                case atStart => exact ⟨A, Nat.le_refl _, by omega, rfl, by rw [rt_self, Nat.or_zero]⟩
                case round =>
                  obtain ⟨k, hk1, hk2, rfl, rfl⟩ := hrel
                  by_cases hkl : k ≤ B
                  · have HST : Hid (wit (x ||| rt A k) (k : Int) = x ||| rt A (k + 1)) := rt_step x A k hk1 (by omega)
                    have HVV : Hid (V (x ||| rt A k)) := V_or HX.out (V_rt A k)
                    generalize x ||| rt A k = z at *
                    go_wp2_with fail
                    refine (rwith_any z HVV.out (k : Int) _).mono ?_
                    rintro e9 w9 ⟨rfl, rfl⟩
                    rw [HST.out]
                    go_wp2
                    exact ⟨⟨k + 1, by omega, by omega, by go_num, rfl⟩, by simp [intOf]; omega⟩
                  · obtain rfl : k = B + 1 := by omega
                    have HR : Hid (x ||| rt A (B + 1) = x ||| rng A B) := by unfold Hid; rw [rt_rng]
                    have HF2 : Hid (foldI 0 ((splitB 44 l).take (j + 1)) = some (x ||| rng A B)) := by
                      unfold Hid
                      rw [HTk.out, foldI_app, HF.out]
                      simp [foldI, HI.out]
                    have HV2 : Hid (V (x ||| rng A B)) := V_or HX.out (V_rng A B)
                    rw [HR.out]
                    generalize x ||| rng A B = z at *
                    go_wp2
                    exact ⟨⟨j + 1, z, by omega, by go_num, rfl, HV2.out, HF2.out, B2.out⟩, by simp [intOf]; omega⟩
              · have HH : Hid (itemN y = none) := by unfold Hid itemN; rw [HHd.out, HSd.out, hcu, hcv]; simp [pairN, hab]
                have HSn : Hid True := trivial
                clear hcu hcv
                have HB3 : Hid (parseM l = 0 ∧ parseE l = 3) := by
                  have : parseI l = none := foldI_bad _ HMem.out HH.out
                  obtain ⟨e1, e2⟩ := ps_no this
                  unfold Hid; rw [H.out.1, H.out.2, e1, e2]; exact ⟨rfl, rfl⟩
                clear HH HSn
                go_wp2
                go_ret2
                exact ⟨by rw [HB3.out.1, HB3.out.2]; rfl, bOn B1.out B2.out⟩
      · have hsp : splitB 45 y = [y] := splitB_no d0
        have hc1 := hcell2 0 (by rw [hsp]; simp)
        rw [show (splitB 45 y).getD 0 [] = y by rw [hsp]; rfl] at hc1
        have hK : (splitB 45 y).length = 1 := by rw [hsp]; rfl
        rw [hK]
        have HHd : Hid (hd 45 y = y) := hd_no d0
        have HSd : Hid (second y = y) := by unfold Hid second; rw [if_neg d0]
        clear hcell2 LLy hsp hK d0
        go_wp2_with fail
        refine (number_any y HLy.out _).mono ?_
        rintro e3 w3 ⟨rfl, rfl⟩
        cases hcu : cpuN y with
        | none =>
          rw [num_no hcu]
          have HH : Hid (itemN y = none) := by unfold Hid itemN; rw [HHd.out, hcu]; rfl
          have HSn : Hid True := trivial
          clear hcu
          have HB3 : Hid (parseM l = 0 ∧ parseE l = 3) := by
            have : parseI l = none := foldI_bad _ HMem.out HH.out
            obtain ⟨e1, e2⟩ := ps_no this
            unfold Hid; rw [H.out.1, H.out.2, e1, e2]; exact ⟨rfl, rfl⟩
          clear HH HSn
          go_wp2
          go_ret2
          exact ⟨by rw [HB3.out.1, HB3.out.2]; rfl, bOn B1.out B2.out⟩
        | some A =>
          rw [num_at hcu]
          have hA := (cpuN_some hcu).1
          have hab : A ≤ A := Nat.le_refl _
          have HH : Hid (cpuN (hd 45 y) = some A) := by unfold Hid; rw [HHd.out, hcu]
          have HSn : Hid (cpuN (second y) = some A) := by unfold Hid; rw [HSd.out, hcu]
          clear hcu HHd HSd
          have HI : Hid (itemN y = some (rng A A)) := by unfold Hid itemN; rw [HH.out, HSn.out]; simp [pairN]
          clear HH HSn
          go_wp2
          go_loop [4, 10] (fun m c => ∃ k : Nat, A ≤ k ∧ k ≤ A + 1 ∧ c = .int .i64 k ∧ m = .int .u64 ((x ||| rt A k : Nat) : Int)) (fun _ c => A + 1 - (intOf c).toNat)
          case atStart => exact ⟨A, Nat.le_refl _, by omega, rfl, by rw [rt_self, Nat.or_zero]⟩
          case round =>
            obtain ⟨k, hk1, hk2, rfl, rfl⟩ := hrel
            by_cases hkl : k ≤ A
            · have HST : Hid (wit (x ||| rt A k) (k : Int) = x ||| rt A (k + 1)) := rt_step x A k hk1 (by omega)
              have HVV : Hid (V (x ||| rt A k)) := V_or HX.out (V_rt A k)
              generalize x ||| rt A k = z at *
              go_wp2_with fail
              refine (rwith_any z HVV.out (k : Int) _).mono ?_
              rintro e9 w9 ⟨rfl, rfl⟩
              rw [HST.out]
              go_wp2
              exact ⟨⟨k + 1, by omega, by omega, by go_num, rfl⟩, by simp [intOf]; omega⟩
            · obtain rfl : k = A + 1 := by omega
              have HR : Hid (x ||| rt A (A + 1) = x ||| rng A A) := by unfold Hid; rw [rt_rng]
              have HF2 : Hid (foldI 0 ((splitB 44 l).take (j + 1)) = some (x ||| rng A A)) := by
                unfold Hid
                rw [HTk.out, foldI_app, HF.out]
                simp [foldI, HI.out]
              have HV2 : Hid (V (x ||| rng A A)) := V_or HX.out (V_rng A A)
              rw [HR.out]
              generalize x ||| rng A A = z at *
              go_wp2
              exact ⟨⟨j + 1, z, by omega, by go_num, rfl, HV2.out, HF2.out, B2.out⟩, by simp [intOf]; omega⟩
    · obtain rfl : j = N := by omega
      have HR : Hid (parseM l = x ∧ parseE l = 0) := by
        have : parseI l = some x := by
          have := HF.out
          rwa [HN.out, List.take_length] at this
        obtain ⟨e1, e2⟩ := ps_at this
        unfold Hid; rw [H.out.1, H.out.2, e1, e2]; exact ⟨rfl, rfl⟩
      go_wp2
      go_ret2
      exact ⟨by rw [HR.out.1, HR.out.2]; rfl, bOn B1.out BW.out⟩

set_option maxHeartbeats 1000000 in
theorem rparse_any (l : List UInt8) (hl : l.length ≤ 1000000) (w : World) :
    Calls Tryd.prog 14 #[.string (st l)] w fun e w' => e = .returned (.tuple #[.int .u64 (parseM l : Nat), .int .i64 (parseE l)]) ∧ Below w.heap.size w w' := by
  obtain ⟨n, hn⟩ : ∃ n, n = l.length := ⟨_, rfl⟩
  have hz : (st l).size = n := by rw [st_size, hn]
  have hn2 : n ≤ 1000000 := by omega
  by_cases h1 : 1000 < n
  · have H : Hid (parseM l = 0 ∧ parseE l = 2) := by unfold Hid parseM parseE; rw [if_pos (by omega), if_pos (by omega)]; exact ⟨rfl, rfl⟩
    clear hn hl
    go_enter Tryd.func14, Tryd.ntmps14
    go_wp2
    go_ret2
    exact ⟨by rw [H.out.1, H.out.2]; rfl, Below.refl _ _⟩
  · by_cases h2 : l = [45]
    · have H : Hid (parseM l = 0 ∧ parseE l = 0) := by
        have hh : ¬ 1000 < l.length := by omega
        unfold Hid parseM parseE; simp only [if_neg hh, if_pos h2]; exact ⟨trivial, trivial⟩
      have hq : ((st l).toList == [45]) = true := by rw [h2]; exact st_one 45
      clear hn hl h2
      go_enter Tryd.func14, Tryd.ntmps14
      go_wp2
      go_ret2
      exact ⟨by rw [H.out.1, H.out.2]; rfl, Below.refl _ _⟩
    · exact rparse_main l (by omega) h2 w
end Go.Proofs.YteklgnmkalippaaDoor
