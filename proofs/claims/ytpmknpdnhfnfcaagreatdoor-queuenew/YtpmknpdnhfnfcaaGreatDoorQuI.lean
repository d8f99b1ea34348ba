/-
  Contract of queue's broughtUp.
-/
import Derived.Test.YtpmknpdnhfnfcaaGreatDoorQyE
namespace Go.Proofs.YtpmknpdnhfnfcaaGreatDoor
open Go.RowKit Go.Sort Ky Wd Tn Tr Wg Qu

theorem putKey {X w2 : World} {k : Nat} (h : Kb X k (0, 0)) (h2 : w2.heap.size ≤ k) (hb : Below w2.heap.size w2 X) (x : K) :
    Kb ((X.setCell ⟨k, 0, none⟩ (.int .u64 x.1)).setCell ⟨k, 1, none⟩ (.int .i64 x.2)) k x ∧ w2.heap.size ≤ k ∧ Below w2.heap.size w2 ((X.setCell ⟨k, 0, none⟩ (.int .u64 x.1)).setCell ⟨k, 1, none⟩ (.int .i64 x.2)) :=
  ⟨h.store x, h2, (hb.setCell (p := ⟨k, 0, none⟩) h2 _).setCell (p := ⟨k, 1, none⟩) h2 _⟩

set_option maxRecDepth 100000 in
set_option maxHeartbeats 2000000 in
theorem broughtUp_any {q : Q} {a a' : Option Addr} {n c n' c' : Nat} {W : World} (hQ : Qd W q (.slice a n c) (.slice a' n' c')) {b : B} (hb : Whole q.t b) :
    Calls Tryz.prog 58 #[qv q (.slice a n c) (.slice a' n' c')] W fun e w' => e = .returned (qv { q with mn := upM q.mn (b.keys ++ q.run) } (.slice a n c) (.slice a' n' c')) ∧ Below W.heap.size W w' := by
  have HW := Lib.hid (w2q_box W q (.slice a n c) (.slice a' n' c'))
  have HAL : Hid (∀ X, Below W.heap.size W X → Calls Tryz.prog 73 #[qv q (.slice a n c) (.slice a' n' c')] X fun e w' => (∃ vs, e = .returned vs ∧ Keys w' vs (b.keys ++ q.run)) ∧ Below X.heap.size X w') := Lib.hid (fun X hX => all_any (hQ.below hX) hb)
  have HFI : Hid (∀ X vs, Keys X vs (b.keys ++ q.run) → Calls Tryz.prog 106 #[.int .u64 q.mn, vs] X fun e w' => e = .returned (.tuple #[.agg #[.int .u64 (firstK q.mn (b.keys ++ q.run)).1, .int .i64 (firstK q.mn (b.keys ++ q.run)).2], .bool (firstB (b.keys ++ q.run))]) ∧ Below X.heap.size X w') := Lib.hid (fun X vs h => first_any q.mn h (by have := hb.size; have := run_len q; simp only [List.length_append]; omega))
  have HUP : Hid (upM q.mn (b.keys ++ q.run) = if firstB (b.keys ++ q.run) = true then lat q.mn (firstK q.mn (b.keys ++ q.run)).1 else q.mn) := Lib.hid (by
    unfold upM firstB
    cases b.keys ++ q.run with
    | nil => simp
    | cons x l => simp)
  clear hQ hb
  generalize upM q.mn (b.keys ++ q.run) = m' at HUP ⊢
  generalize firstK q.mn (b.keys ++ q.run) = x at HUP HFI
  generalize firstB (b.keys ++ q.run) = r at HUP HFI
  generalize b.keys ++ q.run = l at HAL HFI
  unfold w2q qo at HW
  unfold qv at HAL
  unfold qv
  go_enter Tryz.func58, Tryz.ntmps58
  go_upto_region 1 with fail
  generalize hp2 : W.heap.size + 1 = p2 at HW ⊢
  generalize (W.alloc _).alloc _ = w2 at HW ⊢
  have hlt2 := HW.out.2.1.lt
  have HKa : Hid (Kb (w2.alloc (.cells #[.int .u64 0, .int .i64 0] 57)).drew w2.heap.size (0, 0)) := Lib.hid (Kb.new w2 (0, 0))
  have HB0 : Hid (Below w2.heap.size w2 w2.drew) := Lib.hid (Below.refl _ _).drew
  have HBa : Hid (Below w2.heap.size w2 (w2.alloc (.cells #[.int .u64 0, .int .i64 0] 57)).drew) := Lib.hid ((Below.refl _ _).alloc (Nat.le_refl _) _).drew
  obtain ⟨g0, g1, g2, g3, g4, g5, g6⟩ := HW.out.1.all
  obtain ⟨ga0, ga1, ga2, ga3, ga4, ga5, ga6⟩ := (HW.out.1.below HBa.out HW.out.1.lt).all
  have HA0 := Lib.hid (HAL.out w2.drew (HW.out.2.2.trans (HB0.out.mono HW.out.2.2.size)))
  have HA1 := Lib.hid (HAL.out (w2.alloc (.cells #[.int .u64 0, .int .i64 0] 57)).drew (HW.out.2.2.trans (HBa.out.mono HW.out.2.2.size)))
  have HF0 : Hid (∀ X vs, Keys X vs l → Calls Tryz.prog 106 #[.int .u64 q.mn, vs] (X.alloc (.cells #[.int .u64 0, .int .i64 0] 57)) fun e w' => e = .returned (.tuple #[.agg #[.int .u64 x.1, .int .i64 x.2], .bool r]) ∧ Below (X.alloc (.cells #[.int .u64 0, .int .i64 0] 57)).heap.size (X.alloc (.cells #[.int .u64 0, .int .i64 0] 57)) w') := Lib.hid (fun X vs h => HFI.out _ vs (h.below ((Below.refl _ _).alloc (Nat.le_refl _) _)))
  go_cut [3, 4] (fun s3 s4 wx => ∃ k : Nat, s3 = .pointer (some ⟨k, 0, none⟩) ∧ s4 = .bool r ∧ Hid (Kb wx k x ∧ p2 < k ∧ Below w2.heap.size w2 wx))
  case first =>
    go_wp2
    go_region_with (first
      | (go_at_call 73; refine HA0.out.mono ?_; rintro e' w3 ⟨⟨v3, rfl, hk3⟩, hb3⟩; have HK3 := Lib.hid hk3; have HB3 := Lib.hid (HB0.out.trans hb3); obtain ⟨m0, m1, m2, m3, m4, m5, m6⟩ := (HW.out.1.below HB3.out HW.out.1.lt).all; obtain ⟨ma0, ma1, ma2, ma3, ma4, ma5, ma6⟩ := (HW.out.1.below (HB3.out.alloc HB3.out.size (.cells #[.int .u64 0, .int .i64 0] 57)) HW.out.1.lt).all; clear hb3 hk3)
      | (go_at_call 73; refine HA1.out.mono ?_; rintro e' w3 ⟨⟨v3, rfl, hk3⟩, hb3⟩; have HK3 := Lib.hid hk3; have HB3 := Lib.hid (HBa.out.trans (hb3.mono HBa.out.size)); have HKb := Lib.hid (HKa.out.below hb3 HKa.out.lt); obtain ⟨m0, m1, m2, m3, m4, m5, m6⟩ := (HW.out.1.below HB3.out HW.out.1.lt).all; obtain ⟨ma0, ma1, ma2, ma3, ma4, ma5, ma6⟩ := (HW.out.1.below (HB3.out.alloc HB3.out.size (.cells #[.int .u64 0, .int .i64 0] 57)) HW.out.1.lt).all; clear hb3 hk3)
      | (go_at_call 106; refine (HFI.out w3 v3 HK3.out).mono ?_; rintro e' w4 ⟨rfl, hb4⟩; have HB4 := Lib.hid (HB3.out.trans (hb4.mono HB3.out.size)); have HE := Lib.hid (And.intro (HKb.out.below hb4 HKb.out.lt) (And.intro (Nat.le_refl w2.heap.size) HB4.out)); obtain ⟨n0, n1, n2, n3, -⟩ := HE.out.1.all; clear hb4)
      | (go_at_call 106; refine (HFI.out w3 v3 HK3.out).mono ?_; rintro e' w4 ⟨rfl, hb4⟩; have HB4 := Lib.hid (HB3.out.trans (hb4.mono HB3.out.size)); have HE := Lib.hid (And.intro (Kb.new w4 (0, 0)) (And.intro HB4.out.size (HB4.out.alloc HB4.out.size (.cells #[.int .u64 0, .int .i64 0] 57)))); obtain ⟨n0, n1, n2, n3, -⟩ := HE.out.1.all; clear hb4)
      | (go_at_call 106; refine (HF0.out w3 v3 HK3.out).mono ?_; rintro e' w4 ⟨rfl, hb4⟩; have HB4 := Lib.hid ((HB3.out.alloc HB3.out.size (.cells #[.int .u64 0, .int .i64 0] 57)).trans (hb4.mono (HB3.out.alloc HB3.out.size _).size)); have HE := Lib.hid (And.intro ((Kb.new w3 (0, 0)).below hb4 (Kb.new w3 (0, 0)).lt) (And.intro HB3.out.size HB4.out)); obtain ⟨n0, n1, n2, n3, -⟩ := HE.out.1.all; clear hb4))
    all_goals
      have HEE := Lib.hid (putKey HE.out.1 HE.out.2.1 HE.out.2.2 x)
      clear HE HB3 HK3
      go_wp2_with fail
      go_meet
      case rel => first
        | exact ⟨_, rfl, rfl, Lib.hid ⟨HEE.out.1, Nat.lt_of_lt_of_le hlt2 HEE.out.2.1, HEE.out.2.2⟩⟩
        | exact ⟨_, rfl, rfl, Lib.hid ⟨Kb.new w4 x, Nat.lt_of_lt_of_le hlt2 HB4.out.size, HB4.out.alloc HB4.out.size _⟩⟩
  case rest =>
    obtain ⟨k, rfl, rfl, HC⟩ := hcut
    have HQC := Lib.hid (HW.out.1.below HC.out.2.2 HW.out.1.lt)
    have HZC := Lib.hid (HW.out.2.1.below HC.out.2.2 hlt2)
    have HBC := Lib.hid (HW.out.2.2.trans (HC.out.2.2.mono HW.out.2.2.size))
    obtain ⟨k0, k1, -, -, -⟩ := HC.out.1.all
    clear g0 g1 g2 g3 g4 g5 g6 ga0 ga1 ga2 ga3 ga4 ga5 ga6 HA0 HA1 HF0 HB0 HBa HKa HW HAL HFI HC
    obtain ⟨g0, g1, g2, g3, g4, g5, g6⟩ := HQC.out.all
    obtain ⟨f0, f1, f2, f3, f4, f5, f6⟩ := HQC.out.free
    obtain ⟨z0, z1, z2, z3, z4, z5, z6⟩ := HZC.out.all
    obtain ⟨y0, y1, y2, y3, y4, y5, y6⟩ := HZC.out.free
    have hq1 : ¬ p2 = W.heap.size := by omega
    have hq2 : ¬ W.heap.size = p2 := by omega
    cases r with
    | true =>
      obtain rfl : m' = lat q.mn x.1 := by simpa using HUP.out
      obtain ⟨y, hy⟩ : ∃ y, lat q.mn x.1 = y := ⟨_, rfl⟩
      have HLA : Hid (Calls Tryz.prog 107 #[.int .u64 q.mn, .int .u64 x.1] wc fun e w' => e = .returned (.int .u64 y) ∧ wc = w') := Lib.hid (by rw [← hy]; exact later_any q.mn x.1 wc)
      have HY := Lib.hid hy
      have HP : Hid (Qb (putQ (wc.setCell ⟨W.heap.size, 4, none⟩ (.int .u64 y)) p2 { q with mn := y } (.slice a n c) (.slice a' n' c')) p2 { q with mn := y } (.slice a n c) (.slice a' n' c') ∧ Below W.heap.size W (putQ (wc.setCell ⟨W.heap.size, 4, none⟩ (.int .u64 y)) p2 { q with mn := y } (.slice a n c) (.slice a' n' c'))) := Lib.hid
        ⟨(HZC.out.other (by omega) _ _).putQ _ _ _, belowQ (HBC.out.setCell (p := ⟨W.heap.size, 4, none⟩) (Nat.le_refl _) _) (by omega) _ _ _⟩
      unfold putQ at HP
      clear hy HUP HZC HQC HBC
      go_wp2_with fail
      refine (HLA.out).mono ?_
      rintro e' w' ⟨rfl, rfl⟩
      go_wp2
      obtain ⟨s0, s1, s2, s3, s4, s5, s6⟩ := HP.out.1.res
      refine bodyPost_ret (v := .agg #[.int .i64 q.t.root, .slice a n c, .int .i64 q.cur, .int .u64 q.v, .int .u64 y, .int .i64 q.load, .slice a' n' c']) (by simp [results, Tryz.results58, go_sem, s0, s1, s2, s3, s4, s5, s6]) rfl ?_
      exact ⟨by rw [HY.out], HP.out.2⟩
    | false =>
      obtain rfl : m' = q.mn := by simpa using HUP.out
      have HP : Hid (Qb (putQ wc p2 q (.slice a n c) (.slice a' n' c')) p2 q (.slice a n c) (.slice a' n' c') ∧ Below W.heap.size W (putQ wc p2 q (.slice a n c) (.slice a' n' c'))) := Lib.hid
        ⟨HZC.out.putQ _ _ _, belowQ HBC.out (by omega) _ _ _⟩
      unfold putQ at HP
      clear HUP HZC HQC HBC
      go_wp2
      obtain ⟨s0, s1, s2, s3, s4, s5, s6⟩ := HP.out.1.res
      exact bodyPost_ret (v := .agg #[.int .i64 q.t.root, .slice a n c, .int .i64 q.cur, .int .u64 q.v, .int .u64 q.mn, .int .i64 q.load, .slice a' n' c']) (by simp [results, Tryz.results58, go_sem, s0, s1, s2, s3, s4, s5, s6]) rfl ⟨rfl, HP.out.2⟩
end Go.Proofs.YtpmknpdnhfnfcaaGreatDoor
