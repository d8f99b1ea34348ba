/-
  Contract of queue's Tick.
-/
import Derived.Test.YtpmknpdnhfnfcaaGreatDoorQuN
namespace Go.Proofs.YtpmknpdnhfnfcaaGreatDoor
open Go.RowKit Go.Sort Ky Wd Tn Tr Wg Qu

theorem dlt_eq (d w : Int) (h0 : 0 ≤ d) (h1 : d ≤ 1099511627776) (hw : 1 ≤ w) (hw2 : w ≤ 88761) : dlt d w = min (1024 * d / w) step48 := by
  have hU : U w := by unfold U M; omega
  have hle : 1024 * d / w ≤ 1024 * d := Int.ediv_le_self _ (by omega)
  unfold dlt
  rw [scl_eq _ _ _ hU, if_neg (by omega), if_pos (by unfold M; omega)]
theorem dlt_I (d w : Int) (h : 0 ≤ d ∧ d ≤ 1099511627776) (hw : 1 ≤ w ∧ w ≤ 88761) : I (dlt d w) := by
  rw [dlt_eq d w h.1 h.2 hw.1 hw.2]
  have h0 : 0 ≤ 1024 * d / w := Int.ediv_nonneg (by omega) (by omega)
  unfold I step48
  omega
set_option maxRecDepth 100000 in
theorem whyTick {X : World} {q q' : Q} {d e : Int} {m : Bool} (hE : QTick q d q' m e) {r : Bool} (hr : r = true ↔ RightQ q) {f0 f1 f2 : Value}
    (h0 : Rz X f0 4 (!r)) (h1 : Rz X f1 1 (!decide (0 ≤ d ∧ d ≤ 1099511627776))) (h2 : Rz X f2 8 (q.cur == -1)) :
    Calls Tryz.prog 40 #[.slice (some ⟨X.heap.size, 0, none⟩) 3 3] (X.alloc (.cells #[f0, f1, f2] 71)) fun en w' => en = .returned (.int .i64 e) ∧ Below X.heap.size X w' := by
  cases hE with
  | order h =>
    obtain rfl : r = false := by cases r with | false => rfl | true => exact absurd (hr.1 rfl) h
    exact why3 0 (by omega) noFirst (.inl ⟨by omega, h0⟩)
  | arg h hd =>
    obtain rfl : r = true := hr.2 h
    rw [decide_eq_false hd] at h1
    exact why3 1 (by omega) (one1 h0) (.inl ⟨by omega, h1⟩)
  | idle h hd hc =>
    obtain rfl : r = true := hr.2 h
    rw [decide_eq_true hd] at h1
    rw [beq_iff_eq.2 hc] at h2
    exact why3 2 (by omega) (two2 h0 h1) (.inl ⟨by omega, h2⟩)
  | done h hd hc b hb =>
    obtain rfl : r = true := hr.2 h
    rw [decide_eq_true hd] at h1
    rw [beq_eq_false_iff_ne.2 hc] at h2
    exact why3 3 (by omega) (three3 h0 h1 h2) (.inr ⟨rfl, rfl⟩)

set_option maxRecDepth 100000 in
set_option maxHeartbeats 8000000 in
theorem Tick_q {q : Q} {nv wv : Value} {W : World} (hT : Tab W) (hQ : Qd W q nv wv) {d : Int} {q' : Q} {m : Bool} {e : Int} (hE : QTick q d q' m e) :
    Calls Tryz.prog 21 #[qv q nv wv, .int .i64 d] W fun en w' => (∃ v', en = .returned (.tuple #[v', .bool m, .int .i64 e]) ∧ Qr w' v' q') ∧ Below W.heap.size W w' := by
  have HD := Lib.hid hQ
  obtain ⟨a, c, rfl, -, -⟩ := hQ.nds.len
  obtain ⟨a', c', rfl, -, -, -⟩ := hQ.ints
  have HW := Lib.hid (w2q_box W q (.slice a q.t.ns.length c) (.slice a' q.ws.length c'))
  obtain ⟨r, hr⟩ := right_bool q
  have HR0 : Hid (∀ X, Below W.heap.size W X → Calls Tryz.prog 41 #[qv q (.slice a q.t.ns.length c) (.slice a' q.ws.length c')] X fun en w' => (∃ b, en = .returned (.func (.func 90) #[] #[ptr b]) ∧ Rz w' (.func (.func 90) #[] #[ptr b]) 4 (!r)) ∧ Below X.heap.size X w') := Lib.hid (fun X hX => notRight_rz (hT.below hX) (hQ.below hX) hr)
  have HR1 : Hid (∀ X, Calls Tryz.prog 59 #[.int .i64 d] X fun en w' => (∃ b, en = .returned (.func (.func 108) #[] #[ptr b]) ∧ Rz w' (.func (.func 108) #[] #[ptr b]) 1 (!decide (0 ≤ d ∧ d ≤ 1099511627776))) ∧ Below X.heap.size X w') := Lib.hid (fun X => noTick_rz d)
  have HR2 : Hid (∀ X, Calls Tryz.prog 54 #[qv q (.slice a q.t.ns.length c) (.slice a' q.ws.length c')] X fun en w' => (∃ b, en = .returned (.func (.func 103) #[] #[ptr b]) ∧ Rz w' (.func (.func 103) #[] #[ptr b]) 8 (q.cur == -1)) ∧ Below X.heap.size X w') := Lib.hid (fun X => stands_rz)
  have HY : Hid (∀ X f0 f1 f2, Rz X f0 4 (!r) → Rz X f1 1 (!decide (0 ≤ d ∧ d ≤ 1099511627776)) → Rz X f2 8 (q.cur == -1) → Calls Tryz.prog 40 #[.slice (some ⟨X.heap.size, 0, none⟩) 3 3] (X.alloc (.cells #[f0, f1, f2] 71)) fun en w' => en = .returned (.int .i64 e) ∧ Below X.heap.size X w') := Lib.hid (fun X f0 f1 f2 h0 h1 h2 => whyTick hE hr h0 h1 h2)
  have HE := Lib.hid hE
  clear hT hQ hE hr
  unfold w2q qo at HW
  unfold qv at HR0 HR2
  unfold qv
  go_enter Tryz.func21, Tryz.ntmps21
  go_upto_region 1 with fail
  generalize hp2 : W.heap.size + 1 = p2 at HW ⊢
  generalize (W.alloc _).alloc _ = w2 at HW ⊢
  have hlt2 := HW.out.2.1.lt
  go_cut [7] (fun s5 wx => s5 = .int .i64 e ∧ Hid (Below w2.heap.size w2 wx))
  case first =>
    have HSX : Hid (∀ X, Below w2.heap.size w2 X → (X.cell? ⟨W.heap.size, 0, none⟩ = some (.int .i64 q.t.root) ∧ X.cell? ⟨W.heap.size, 1, none⟩ = some (.slice a q.t.ns.length c) ∧ X.cell? ⟨W.heap.size, 2, none⟩ = some (.int .i64 q.cur) ∧ X.cell? ⟨W.heap.size, 3, none⟩ = some (.int .u64 q.v) ∧ X.cell? ⟨W.heap.size, 4, none⟩ = some (.int .u64 q.mn) ∧ X.cell? ⟨W.heap.size, 5, none⟩ = some (.int .i64 q.load) ∧ X.cell? ⟨W.heap.size, 6, none⟩ = some (.slice a' q.ws.length c'))) := Lib.hid (fun X hX => (HW.out.1.below hX HW.out.1.lt).all)
    have HWX : Hid (∀ X, Below w2.heap.size w2 X → Below W.heap.size W X) := Lib.hid (fun X hX => HW.out.2.2.trans (hX.mono HW.out.2.2.size))
    obtain ⟨h0, h1, h2, h3, h4, h5, h6⟩ := HSX.out w2 (Below.refl _ _)
    have HZ : Hid (Below w2.heap.size w2 w2) := Lib.hid (Below.refl _ _)
    have HZD : Hid (Below w2.heap.size w2 w2.drew) := Lib.hid (Below.refl _ _).drew
    clear HD HE HW
    go_wp2_with fail
    go_region_held3 (fun X => (X.cell? ⟨W.heap.size, 0, none⟩ = some (.int .i64 q.t.root) ∧ X.cell? ⟨W.heap.size, 1, none⟩ = some (.slice a q.t.ns.length c) ∧ X.cell? ⟨W.heap.size, 2, none⟩ = some (.int .i64 q.cur) ∧ X.cell? ⟨W.heap.size, 3, none⟩ = some (.int .u64 q.v) ∧ X.cell? ⟨W.heap.size, 4, none⟩ = some (.int .u64 q.mn) ∧ X.cell? ⟨W.heap.size, 5, none⟩ = some (.int .i64 q.load) ∧ X.cell? ⟨W.heap.size, 6, none⟩ = some (.slice a' q.ws.length c')))
      (first
        | with_reducible exact HSX.out _ HZ.out
        | with_reducible exact HSX.out _ HZD.out
        | with_reducible exact HSX.out _ HB3.out
        | with_reducible exact HSX.out _ HB4.out
        | with_reducible exact HSX.out _ HB6.out
        | with_reducible exact HSX.out _ HB6A.out
        | with_reducible exact HSX.out _ HB7.out
        | go_keep)
      (first
        | (go_at_call 41; refine (HR0.out _ (HWX.out _ HZD.out)).mono ?_; rintro e' w3 ⟨⟨b0, rfl, hz⟩, hb3⟩; have HB3 := Lib.hid (HZD.out.trans hb3); have HF0 := Lib.hid hz; clear hz hb3)
        | (go_at_call 59; refine (HR1.out _).mono ?_; rintro e' w4 ⟨⟨b1, rfl, hz⟩, hb4⟩; have HB4 := Lib.hid (HB3.out.trans (hb4.mono HB3.out.size)); have HF1 := Lib.hid hz; have HF01 := Lib.hid (HF0.out.below hb4); clear hz hb4)
        | (go_at_call 54; refine (HR2.out _).mono ?_; rintro e' w6 ⟨⟨b3, rfl, hz⟩, hb6⟩; have HB6 := Lib.hid (HB4.out.trans (hb6.mono HB4.out.size)); have HC := Lib.hid (HY.out w6 _ _ _ (HF01.out.below hb6) (HF1.out.below hb6) hz); have HB6A := Lib.hid (HB6.out.alloc HB6.out.size (.cells #[.func (.func 90) #[] #[ptr b0], .func (.func 108) #[] #[ptr b1], .func (.func 103) #[] #[ptr b3]] 71)); clear hz hb6)
        | (go_at_call 40; refine HC.out.mono ?_; rintro e' w7 ⟨rfl, hb7⟩; have HB7 := Lib.hid (HB6.out.trans (hb7.mono HB6.out.size)); clear hb7))
    all_goals
      go_wp2_with fail
      go_meet
      case rel => exact ⟨rfl, Lib.hid HB7.out⟩
  case rest =>
    obtain ⟨rfl, HC⟩ := hcut
    obtain ⟨w3, rfl⟩ : ∃ w3, w3 = wc := ⟨_, rfl⟩
    have HQC := Lib.hid (HW.out.1.below HC.out HW.out.1.lt)
    have HZC := Lib.hid (HW.out.2.1.below HC.out hlt2)
    have HBC := Lib.hid (HW.out.2.2.trans (HC.out.mono HW.out.2.2.size))
    have HLT : Hid (p2 < w3.heap.size) := Lib.hid (Nat.lt_of_lt_of_le hlt2 HC.out.size)
    clear HW HC HR0 HR1 HR2 HY hlt2
    have HEQ : Hid ((e ≠ 0 → q' = qE ∧ m = false) ∧ (e = 0 → RightQ q ∧ (0 ≤ d ∧ d ≤ 1099511627776) ∧ q.cur ≠ -1 ∧ ∃ b, Whole q.t b ∧ q' = q.tick b.keys (dlt d (q.w q.cur)) ∧ m = (!b.keys.isEmpty && ltK (q.tick b.keys (dlt d (q.w q.cur))).mn (b.keys.headD (0, 0)) (stepN q.v q.mn (dlt d (q.w q.cur)), q.cur)))) := Lib.hid (by
      cases HE.out with
      | order h => exact ⟨fun _ => ⟨rfl, rfl⟩, fun h => by cases h⟩
      | arg h hd => exact ⟨fun _ => ⟨rfl, rfl⟩, fun h => by cases h⟩
      | idle h hd hc => exact ⟨fun _ => ⟨rfl, rfl⟩, fun h => by cases h⟩
      | done h hd hc b hb => exact ⟨fun h => absurd rfl h, fun _ => ⟨h, hd, hc, b, hb, rfl, rfl⟩⟩)
    clear HE
    by_cases he : e = 0
    · subst he
      obtain ⟨hrq, hd, hc, b, hb, rfl, rfl⟩ := HEQ.out.2 rfl
      have HLN : Hid (q.ws.length = q.t.ns.length ∧ q.t.ns.length ≤ 64) := Lib.hid (by obtain ⟨b, hb, -, -, hw, -⟩ := hrq; exact ⟨hw.1, hb.len⟩)
      have hcu : q.t.has q.cur := by
        obtain ⟨b0, -, -, hcu, -⟩ := hrq
        exact (hcu.resolve_left (fun k => hc k.1)).1
      have HWC : Hid (1 ≤ q.w q.cur ∧ q.w q.cur ≤ 88761) := Lib.hid ((right_w hrq hcu).2.2.2.2.2 (by unfold Q.here; simp))
      obtain ⟨j, hj0⟩ := Int.eq_ofNat_of_zero_le hcu.1
      have HJ0 := Lib.hid hj0
      have HJL : Hid (j < q.ws.length) := Lib.hid (by have := hcu.2; have := HLN.out; omega)
      have HDD := Lib.hid hd
      have HWB := Lib.hid hb
      have HNC := Lib.hid hc
      clear HEQ hrq hd hc hb hcu hj0
      -- q = own(q)
      have HOW := Lib.hid (own_any (HD.out.below HBC.out) (by have := HLN.out; omega) (by have := HLN.out; omega))
      unfold qv at HOW
      obtain ⟨g0, g1, g2, g3, g4, g5, g6⟩ := HQC.out.all
      go_wp2_with fail
      refine HOW.out.mono ?_
      rintro e' w4 ⟨⟨a4, c4, a5, c5, rfl, hw4⟩, hb4⟩
      obtain ⟨g, cw, hv, hcw, hcm, -, -, -, -⟩ := hw4.own.at HJL.out
      simp only [Value.slice.injEq] at hv
      obtain ⟨rfl, -, rfl⟩ := hv
      unfold maxLen at hcm
      have HQ4 := Lib.hid (HQC.out.below hb4 HQC.out.lt)
      have HZ4 := Lib.hid (HZC.out.below hb4 HLT.out)
      have HB4 := Lib.hid (HBC.out.trans (hb4.mono HBC.out.size))
      have HO4 := Lib.hid hw4
      have HLW : Hid (p2 < w4.heap.size ∧ W.heap.size < w3.heap.size ∧ w3.heap.size ≤ w4.heap.size) := Lib.hid ⟨Nat.lt_of_lt_of_le HLT.out hb4.size, HQC.out.lt, hb4.size⟩
      clear HOW hw4 hb4 g0 g1 g2 g3 g4 g5 g6 HD
      have HP5 : Hid (Qb (putQ w4 W.heap.size q (.slice a4 q.t.ns.length c4) (.slice (some ⟨g, 0, none⟩) q.ws.length c5)) W.heap.size q (.slice a4 q.t.ns.length c4) (.slice (some ⟨g, 0, none⟩) q.ws.length c5) ∧
          Qb (putQ w4 W.heap.size q (.slice a4 q.t.ns.length c4) (.slice (some ⟨g, 0, none⟩) q.ws.length c5)) p2 qE (.slice none 0 0) (.slice none 0 0) ∧
          Below W.heap.size W (putQ w4 W.heap.size q (.slice a4 q.t.ns.length c4) (.slice (some ⟨g, 0, none⟩) q.ws.length c5)) ∧
          Qw (putQ w4 W.heap.size q (.slice a4 q.t.ns.length c4) (.slice (some ⟨g, 0, none⟩) q.ws.length c5)) w3.heap.size q (.slice a4 q.t.ns.length c4) (.slice (some ⟨g, 0, none⟩) q.ws.length c5) ∧
          w3.heap.size ≤ (putQ w4 W.heap.size q (.slice a4 q.t.ns.length c4) (.slice (some ⟨g, 0, none⟩) q.ws.length c5)).heap.size) := Lib.hid
        ⟨HQ4.out.putQ _ _ _, HZ4.out.otherQ (by omega) _ _ _, belowQ HB4.out (Nat.le_refl _) _ _ _, HO4.out.putQ (by have := HLW.out; omega) _ _ _, Nat.le_trans HLW.out.2.2 (belowQ (Below.refl 0 w4) (Nat.zero_le _) q _ _).size⟩
      unfold putQ at HP5
      obtain ⟨g0, g1, g2, g3, g4, g5, g6⟩ := HQ4.out.all
      obtain ⟨f0, f1, f2, f3, f4, f5, f6⟩ := HQ4.out.free
      go_upto_region 5 with fail
      generalize ((((((w4.setCell ⟨W.heap.size, 0, none⟩ (.int .i64 q.t.root)).setCell ⟨W.heap.size, 1, none⟩ (.slice a4 q.t.ns.length c4)).setCell ⟨W.heap.size, 2, none⟩ (.int .i64 q.cur)).setCell ⟨W.heap.size, 3, none⟩ (.int .u64 q.v)).setCell ⟨W.heap.size, 4, none⟩ (.int .u64 q.mn)).setCell ⟨W.heap.size, 5, none⟩ (.int .i64 q.load)).setCell ⟨W.heap.size, 6, none⟩ (.slice (some ⟨g, 0, none⟩) q.ws.length c5) = w5 at HP5 ⊢
      have HDW := Lib.hid (And.intro HP5.out.2.2.2.1.wf (And.intro HP5.out.2.2.2.1.um (And.intro HP5.out.2.2.2.1.uv (And.intro HP5.out.2.2.2.1.ic (show w3.heap.size > p2 ∧ w3.heap.size > W.heap.size from ⟨HLT.out, HLW.out.2.1⟩)))))
      clear HQC HZC HBC HQ4 HZ4 HB4 HO4 g0 g1 g2 g3 g4 g5 g6 f0 f1 f2 f3 f4 f5 f6
      obtain ⟨g0, g1, g2, g3, g4, g5, g6⟩ := HP5.out.1.all
      obtain ⟨f0, f1, f2, f3, f4, f5, f6⟩ := HP5.out.1.free
      -- the step
      obtain ⟨x, hx⟩ : ∃ x, q.w q.cur = x := ⟨_, rfl⟩
      have hcell : w5.cell? ⟨g, j, none⟩ = some (.int .i64 x) := by
        obtain ⟨g', c', e, -, -, -, -, h1, -⟩ := HP5.out.2.2.2.1.own.at HJL.out
        simp only [Value.slice.injEq, Option.some.injEq, Addr.mk.injEq, and_true, true_and] at e
        obtain ⟨rfl, -⟩ := e
        rw [h1, ← hx]
        unfold Q.w
        rw [HJ0.out]
        simp
      rw [hx] at HWC
      obtain ⟨st, hst⟩ : ∃ st, dlt d x = st := ⟨_, rfl⟩
      have HDE : Hid (∀ X, Calls Tryz.prog 60 #[.int .i64 d, .int .i64 x] X fun e w' => e = .returned (.tuple #[.int .i64 st, .int .i64 0]) ∧ Below X.heap.size X w') := Lib.hid (fun X => by
        rw [← hst]
        have h1 := HWC.out
        have h2 := HDD.out
        exact delta_yes d x h2.1 (by omega) h1.1 (by omega) X)
      have HIS : Hid (I st) := Lib.hid (by
        rw [← hst]
        exact dlt_I d x HDD.out HWC.out)
      obtain ⟨sv, hsv⟩ : ∃ sv, stepN q.v q.mn st = sv := ⟨_, rfl⟩
      have HST : Hid (∀ X, Calls Tryz.prog 61 #[.int .u64 q.v, .int .u64 q.mn, .int .i64 st] X fun e w' => e = .returned (.int .u64 sv) ∧ X = w') := Lib.hid (fun X => by rw [← hsv]; exact step_any q.v q.mn st HIS.out X)
      have HUS : Hid (U sv) := Lib.hid (by rw [← hsv]; exact U_step _ _ _ HDW.out.2.2.1)
      obtain ⟨mn', hmn⟩ : ∃ mn', upM q.mn (b.keys ++ [(sv, q.cur)]) = mn' := ⟨_, rfl⟩
      have HTK : Hid (q.tick b.keys (dlt d (q.w q.cur)) = ⟨q.t, q.cur, sv, mn', q.load, q.ws⟩ ∧ stepN q.v q.mn (dlt d (q.w q.cur)) = sv) := Lib.hid (by rw [hx, hst]; unfold Q.tick; rw [hsv, hmn]; exact ⟨rfl, rfl⟩)
      have HMN := Lib.hid hmn
      clear hx hst hsv hmn HDD HWC
      rw [HJ0.out] at g2
      go_wp2_with fail
      refine (HDE.out _).mono ?_
      rintro e' w6 ⟨rfl, hb6⟩
      have HQ6 := Lib.hid (HP5.out.1.below hb6 HP5.out.1.lt)
      have HZ6 := Lib.hid (HP5.out.2.1.below hb6 HP5.out.2.1.lt)
      have HB6 := Lib.hid (HP5.out.2.2.1.trans (hb6.mono HP5.out.2.2.1.size))
      have HN6 := Lib.hid (HP5.out.2.2.2.1.nds.below hb6)
      have HO6 := Lib.hid (HP5.out.2.2.2.1.own.below hb6)
      have HS6 : Hid (w3.heap.size ≤ w6.heap.size) := Lib.hid (Nat.le_trans HP5.out.2.2.2.2 hb6.size)
      clear HDE hb6 hcell g0 g1 g2 g3 g4 g5 g6 f0 f1 f2 f3 f4 f5 f6 HP5
      obtain ⟨g0, g1, g2, g3, g4, g5, g6⟩ := HQ6.out.all
      obtain ⟨f0, f1, f2, f3, f4, f5, f6⟩ := HQ6.out.free
      go_wp2_with fail
      refine (HST.out _).mono ?_
      rintro e' w' ⟨rfl, rfl⟩
      go_upto_region 7 with fail
      have HP7 : Hid (Qb (w6.setCell ⟨W.heap.size, 3, none⟩ (.int .u64 sv)) W.heap.size ⟨q.t, q.cur, sv, q.mn, q.load, q.ws⟩ (.slice a4 q.t.ns.length c4) (.slice (some ⟨g, 0, none⟩) q.ws.length c5) ∧
          Qb (w6.setCell ⟨W.heap.size, 3, none⟩ (.int .u64 sv)) p2 qE (.slice none 0 0) (.slice none 0 0) ∧
          Below W.heap.size W (w6.setCell ⟨W.heap.size, 3, none⟩ (.int .u64 sv)) ∧
          Nds (w6.setCell ⟨W.heap.size, 3, none⟩ (.int .u64 sv)) (.slice a4 q.t.ns.length c4) q.t.ns ∧
          Own .i64 (w6.setCell ⟨W.heap.size, 3, none⟩ (.int .u64 sv)) w3.heap.size 3 (.slice (some ⟨g, 0, none⟩) q.ws.length c5) q.ws ∧
          w3.heap.size ≤ (w6.setCell ⟨W.heap.size, 3, none⟩ (.int .u64 sv)).heap.size) := Lib.hid (by
        have h7 := HDW.out.2.2.2.2
        exact ⟨HQ6.out.putV sv, HZ6.out.other (by omega) _ _, HB6.out.setCell (p := ⟨W.heap.size, 3, none⟩) (Nat.le_refl _) _, HN6.out.aw (HN6.out.off HQ6.out) _ _, HO6.out.aw (by omega) _ _, by simpa using HS6.out⟩)
      generalize w6.setCell ⟨W.heap.size, 3, none⟩ (.int .u64 sv) = w7 at HP7 ⊢
      clear HQ6 HZ6 HB6 HN6 HO6 HS6 HST g0 g1 g2 g3 g4 g5 g6 f0 f1 f2 f3 f4 f5 f6
      -- brought up
      have HBU : Hid (Calls Tryz.prog 58 #[qv ⟨q.t, q.cur, sv, q.mn, q.load, q.ws⟩ (.slice a4 q.t.ns.length c4) (.slice (some ⟨g, 0, none⟩) q.ws.length c5)] w7 fun e w' => e = .returned (qv ⟨q.t, q.cur, sv, mn', q.load, q.ws⟩ (.slice a4 q.t.ns.length c4) (.slice (some ⟨g, 0, none⟩) q.ws.length c5)) ∧ Below w7.heap.size w7 w') := Lib.hid (by
        have he : ({ (⟨q.t, q.cur, sv, q.mn, q.load, q.ws⟩ : Q) with mn := upM q.mn (b.keys ++ (⟨q.t, q.cur, sv, q.mn, q.load, q.ws⟩ : Q).run) } : Q) = ⟨q.t, q.cur, sv, mn', q.load, q.ws⟩ := by
          rw [run_yes (q := ⟨q.t, q.cur, sv, q.mn, q.load, q.ws⟩) HNC.out]
          exact congrArg (fun y => (⟨q.t, q.cur, sv, y, q.load, q.ws⟩ : Q)) HMN.out
        rw [← he]
        exact broughtUp_any (q := ⟨q.t, q.cur, sv, q.mn, q.load, q.ws⟩) ⟨HP7.out.2.2.2.1, HP7.out.2.2.2.2.1.ints HDW.out.1, HUS.out, HDW.out.2.1, HDW.out.2.2.2.1⟩ HWB.out)
      unfold qv at HBU
      dsimp only at HBU
      obtain ⟨g0, g1, g2, g3, g4, g5, g6⟩ := HP7.out.1.all
      go_wp2_with fail
      refine HBU.out.mono ?_
      rintro e' w8 ⟨rfl, hb8⟩
      have HP9 : Hid (Qb (putQ w8 W.heap.size ⟨q.t, q.cur, sv, mn', q.load, q.ws⟩ (.slice a4 q.t.ns.length c4) (.slice (some ⟨g, 0, none⟩) q.ws.length c5)) W.heap.size ⟨q.t, q.cur, sv, mn', q.load, q.ws⟩ (.slice a4 q.t.ns.length c4) (.slice (some ⟨g, 0, none⟩) q.ws.length c5) ∧
          Qb (putQ w8 W.heap.size ⟨q.t, q.cur, sv, mn', q.load, q.ws⟩ (.slice a4 q.t.ns.length c4) (.slice (some ⟨g, 0, none⟩) q.ws.length c5)) p2 qE (.slice none 0 0) (.slice none 0 0) ∧
          Below W.heap.size W (putQ w8 W.heap.size ⟨q.t, q.cur, sv, mn', q.load, q.ws⟩ (.slice a4 q.t.ns.length c4) (.slice (some ⟨g, 0, none⟩) q.ws.length c5)) ∧
          Nds (putQ w8 W.heap.size ⟨q.t, q.cur, sv, mn', q.load, q.ws⟩ (.slice a4 q.t.ns.length c4) (.slice (some ⟨g, 0, none⟩) q.ws.length c5)) (.slice a4 q.t.ns.length c4) q.t.ns ∧
          Own .i64 (putQ w8 W.heap.size ⟨q.t, q.cur, sv, mn', q.load, q.ws⟩ (.slice a4 q.t.ns.length c4) (.slice (some ⟨g, 0, none⟩) q.ws.length c5)) w3.heap.size 3 (.slice (some ⟨g, 0, none⟩) q.ws.length c5) q.ws ∧
          w3.heap.size ≤ (putQ w8 W.heap.size ⟨q.t, q.cur, sv, mn', q.load, q.ws⟩ (.slice a4 q.t.ns.length c4) (.slice (some ⟨g, 0, none⟩) q.ws.length c5)).heap.size) := Lib.hid (by
        have h1 := HP7.out.1.below hb8 HP7.out.1.lt
        have h2 := HP7.out.2.1.below hb8 HP7.out.2.1.lt
        have h3 := HP7.out.2.2.1.trans (hb8.mono HP7.out.2.2.1.size)
        have h4 := HP7.out.2.2.2.1.below hb8
        have h7 := HDW.out.2.2.2.2
        exact ⟨h1.putQ _ _ _, h2.otherQ (by omega) _ _ _, belowQ h3 (Nat.le_refl _) _ _ _, h4.putQ (h4.off h1) _ _ _, (HP7.out.2.2.2.2.1.below hb8).putQ (by omega) _ _ _, Nat.le_trans (Nat.le_trans HP7.out.2.2.2.2.2 hb8.size) (belowQ (Below.refl 0 w8) (Nat.zero_le _) _ _ _).size⟩)
      unfold putQ at HP9
      dsimp only at HP9
      obtain ⟨m0, m1, m2, m3, m4, m5, m6⟩ := (HP7.out.1.below hb8 HP7.out.1.lt).all
      obtain ⟨n0, n1, n2, n3, n4, n5, n6⟩ := (HP7.out.1.below hb8 HP7.out.1.lt).free
      clear hb8 HBU g0 g1 g2 g3 g4 g5 g6
      go_upto_region 8 with fail
      generalize ((((((w8.setCell ⟨W.heap.size, 0, none⟩ (.int .i64 q.t.root)).setCell ⟨W.heap.size, 1, none⟩ (.slice a4 q.t.ns.length c4)).setCell ⟨W.heap.size, 2, none⟩ (.int .i64 q.cur)).setCell ⟨W.heap.size, 3, none⟩ (.int .u64 sv)).setCell ⟨W.heap.size, 4, none⟩ (.int .u64 mn')).setCell ⟨W.heap.size, 5, none⟩ (.int .i64 q.load)).setCell ⟨W.heap.size, 6, none⟩ (.slice (some ⟨g, 0, none⟩) q.ws.length c5) = w9 at HP9 ⊢
      clear m0 m1 m2 m3 m4 m5 m6 n0 n1 n2 n3 n4 n5 n6 HP7
      -- the first one of the tree
      obtain ⟨fk, hfk⟩ : ∃ fk, b.keys.headD (0, 0) = fk := ⟨_, rfl⟩
      obtain ⟨ok, hok⟩ : ∃ ok, (!b.keys.isEmpty) = ok := ⟨_, rfl⟩
      have HFI : Hid (Calls Tryz.prog 57 #[tv q.t (.slice a4 q.t.ns.length c4)] w9 fun e w' => e = .returned (.tuple #[.agg #[.int .u64 fk.1, .int .i64 fk.2], .bool ok]) ∧ Below w9.heap.size w9 w') := Lib.hid (by rw [← hfk, ← hok]; exact First_at HP9.out.2.2.2.1 (l := b.keys) (.inl ⟨b, HWB.out, rfl⟩))
      have HFO := Lib.hid (And.intro hfk hok)
      clear hfk hok
      unfold tv at HFI
      obtain ⟨g0, g1, g2, g3, g4, g5, g6⟩ := HP9.out.1.all
      go_wp2_with fail
      refine HFI.out.mono ?_
      rintro e' w10 ⟨rfl, hb10⟩
      go_upto_region 9 with fail
      have HK11 := Lib.hid (Kb.new w10 fk)
      have HA11 := Lib.hid ((Below.refl w10.heap.size w10).alloc (Nat.le_refl _) (.cells #[.int .u64 fk.1, .int .i64 fk.2] 57))
      have HB11 := Lib.hid (hb10.trans (HA11.out.mono hb10.size))
      have HKN : Hid (w9.heap.size ≤ w10.heap.size) := Lib.hid hb10.size
      clear hb10 HFI g0 g1 g2 g3 g4 g5 g6
      generalize w10.heap.size = k at HK11 HKN HA11 ⊢
      generalize w10.alloc (.cells #[.int .u64 fk.1, .int .i64 fk.2] 57) = w11 at HK11 HB11 HA11 ⊢
      have HQ11 := Lib.hid (HP9.out.1.below HB11.out HP9.out.1.lt)
      have HZ11 := Lib.hid (HP9.out.2.1.below HB11.out HP9.out.2.1.lt)
      have HW11 := Lib.hid (HP9.out.2.2.1.trans (HB11.out.mono HP9.out.2.2.1.size))
      have HN11 := Lib.hid (HP9.out.2.2.2.1.below HB11.out)
      have HO11 := Lib.hid (HP9.out.2.2.2.2.1.below HB11.out)
      have HSZ : Hid (W.heap.size < k ∧ p2 < k) := Lib.hid (by have := HKN.out; have := HP9.out.2.2.2.2.2; have := HDW.out.2.2.2.2; omega)
      clear HP9 HA11 HB11
      have HSX : Hid (∀ X, Below w11.heap.size w11 X → (X.cell? ⟨W.heap.size, 0, none⟩ = some (.int .i64 q.t.root) ∧ X.cell? ⟨W.heap.size, 1, none⟩ = some (.slice a4 q.t.ns.length c4) ∧ X.cell? ⟨W.heap.size, 2, none⟩ = some (.int .i64 q.cur) ∧ X.cell? ⟨W.heap.size, 3, none⟩ = some (.int .u64 sv) ∧ X.cell? ⟨W.heap.size, 4, none⟩ = some (.int .u64 mn') ∧ X.cell? ⟨W.heap.size, 5, none⟩ = some (.int .i64 q.load) ∧ X.cell? ⟨W.heap.size, 6, none⟩ = some (.slice (some ⟨g, 0, none⟩) q.ws.length c5) ∧ X.cell? ⟨k, 0, none⟩ = some (.int .u64 fk.1) ∧ X.cell? ⟨k, 1, none⟩ = some (.int .i64 fk.2))) := Lib.hid (fun X hX => by
        obtain ⟨c0, c1, c2, c3, c4', c5', c6⟩ := (HQ11.out.below hX HQ11.out.lt).all
        obtain ⟨e0, e1, -⟩ := (HK11.out.below hX HK11.out.lt).all
        exact ⟨c0, c1, c2, c3, c4', c5', c6, e0, e1⟩)
      have HSE : Hid (∀ Y, Below w11.heap.size w11 Y → ∀ X, X = (putQ Y p2 (⟨q.t, q.cur, sv, mn', q.load, q.ws⟩ : Q) (.slice a4 q.t.ns.length c4) (.slice (some ⟨g, 0, none⟩) q.ws.length c5)) → (X.cell? ⟨W.heap.size, 0, none⟩ = some (.int .i64 q.t.root) ∧ X.cell? ⟨W.heap.size, 1, none⟩ = some (.slice a4 q.t.ns.length c4) ∧ X.cell? ⟨W.heap.size, 2, none⟩ = some (.int .i64 q.cur) ∧ X.cell? ⟨W.heap.size, 3, none⟩ = some (.int .u64 sv) ∧ X.cell? ⟨W.heap.size, 4, none⟩ = some (.int .u64 mn') ∧ X.cell? ⟨W.heap.size, 5, none⟩ = some (.int .i64 q.load) ∧ X.cell? ⟨W.heap.size, 6, none⟩ = some (.slice (some ⟨g, 0, none⟩) q.ws.length c5) ∧ X.cell? ⟨k, 0, none⟩ = some (.int .u64 fk.1) ∧ X.cell? ⟨k, 1, none⟩ = some (.int .i64 fk.2))) := Lib.hid (fun Y hY X hX => by
        subst hX
        have h6 := HSZ.out
        obtain ⟨c0, c1, c2, c3, c4', c5', c6⟩ := ((HQ11.out.below hY HQ11.out.lt).otherQ (p' := p2) (by omega) ⟨q.t, q.cur, sv, mn', q.load, q.ws⟩ (.slice a4 q.t.ns.length c4) (.slice (some ⟨g, 0, none⟩) q.ws.length c5)).all
        obtain ⟨e0, e1, -⟩ := ((HK11.out.below hY HK11.out.lt).otherQ (p := p2) (by omega) ⟨q.t, q.cur, sv, mn', q.load, q.ws⟩ (.slice a4 q.t.ns.length c4) (.slice (some ⟨g, 0, none⟩) q.ws.length c5)).all
        exact ⟨c0, c1, c2, c3, c4', c5', c6, e0, e1⟩)
      unfold putQ at HSE
      dsimp only at HSE
      have HZ : Hid (Below w11.heap.size w11 w11) := Lib.hid (Below.refl _ _)
      have HZD : Hid (Below w11.heap.size w11 w11.drew) := Lib.hid (Below.refl _ _).drew
      have hlt2 := HZ11.out.lt
      have HFIN : Hid (∀ Y, Below w11.heap.size w11 Y → (Qb (putQ Y p2 (⟨q.t, q.cur, sv, mn', q.load, q.ws⟩ : Q) (.slice a4 q.t.ns.length c4) (.slice (some ⟨g, 0, none⟩) q.ws.length c5)) p2 ⟨q.t, q.cur, sv, mn', q.load, q.ws⟩ (.slice a4 q.t.ns.length c4) (.slice (some ⟨g, 0, none⟩) q.ws.length c5) ∧ Below W.heap.size W (putQ Y p2 (⟨q.t, q.cur, sv, mn', q.load, q.ws⟩ : Q) (.slice a4 q.t.ns.length c4) (.slice (some ⟨g, 0, none⟩) q.ws.length c5)) ∧ Qr (putQ Y p2 (⟨q.t, q.cur, sv, mn', q.load, q.ws⟩ : Q) (.slice a4 q.t.ns.length c4) (.slice (some ⟨g, 0, none⟩) q.ws.length c5)) (qv ⟨q.t, q.cur, sv, mn', q.load, q.ws⟩ (.slice a4 q.t.ns.length c4) (.slice (some ⟨g, 0, none⟩) q.ws.length c5)) ⟨q.t, q.cur, sv, mn', q.load, q.ws⟩)) := Lib.hid (fun Y hY => by
        have hz := HZ11.out.below hY hlt2
        have hn := HN11.out.below hY
        have h7 := HDW.out.2.2.2.2
        refine ⟨hz.putQ _ _ _, belowQ (HW11.out.trans (hY.mono HW11.out.size)) (by omega) _ _ _, a4, c4, _, c5, rfl, hn.putQ (hn.off hz) _ _ _, ((HO11.out.below hY).ints HDW.out.1).putQ (HO11.out.off h7.1) _ _ _, HUS.out, ?_, HDW.out.2.2.2.1⟩
        show U mn'
        rw [← HMN.out]
        exact up_U HDW.out.2.1 (fun y hy => by
          rcases List.mem_append.1 hy with h | h
          · exact Sub.keyU hn.us HWB.out.len HWB.out.sub y h
          · obtain rfl := List.mem_singleton.1 h; exact ⟨HUS.out, HDW.out.2.2.2.1⟩))
      have HFR : Hid (∀ Y, Below w11.heap.size w11 Y → (Y.frozen? ⟨p2, 0, none⟩ = false ∧ Y.frozen? ⟨p2, 1, none⟩ = false ∧ Y.frozen? ⟨p2, 2, none⟩ = false ∧ Y.frozen? ⟨p2, 3, none⟩ = false ∧ Y.frozen? ⟨p2, 4, none⟩ = false ∧ Y.frozen? ⟨p2, 5, none⟩ = false ∧ Y.frozen? ⟨p2, 6, none⟩ = false)) := Lib.hid (fun Y hY => (HZ11.out.below hY hlt2).free)
      have HFC : Hid (∀ Y, Below w11.heap.size w11 Y → (Y.cell? ⟨p2, 0, none⟩ = some (.int .i64 0) ∧ Y.cell? ⟨p2, 1, none⟩ = some (.slice none 0 0) ∧ Y.cell? ⟨p2, 2, none⟩ = some (.int .i64 0) ∧ Y.cell? ⟨p2, 3, none⟩ = some (.int .u64 0) ∧ Y.cell? ⟨p2, 4, none⟩ = some (.int .u64 0) ∧ Y.cell? ⟨p2, 5, none⟩ = some (.int .i64 0) ∧ Y.cell? ⟨p2, 6, none⟩ = some (.slice none 0 0))) := Lib.hid (fun Y hY => (HZ11.out.below hY hlt2).all)
      have HRN : Hid (∀ X, Calls Tryz.prog 63 #[qv ⟨q.t, q.cur, sv, mn', q.load, q.ws⟩ (.slice a4 q.t.ns.length c4) (.slice (some ⟨g, 0, none⟩) q.ws.length c5)] X fun e w' => e = .returned (.agg #[.int .u64 sv, .int .i64 q.cur]) ∧ Below X.heap.size X w') := Lib.hid (fun X => running_any _ _ _ X)
      unfold qv at HRN
      dsimp only at HRN
      obtain ⟨lt, hlt⟩ : ∃ lt, ltK mn' fk (sv, q.cur) = lt := ⟨_, rfl⟩
      have HLE : Hid (∀ X, Calls Tryz.prog 62 #[.int .u64 mn', .agg #[.int .u64 fk.1, .int .i64 fk.2], .agg #[.int .u64 sv, .int .i64 q.cur]] X fun e w' => e = .returned (.bool lt) ∧ Gr X w') := Lib.hid (fun X => by rw [← hlt]; exact less_gr mn' fk (sv, q.cur) X)
      have HEND : Hid (q.tick b.keys (dlt d (q.w q.cur)) = ⟨q.t, q.cur, sv, mn', q.load, q.ws⟩ ∧ (!b.keys.isEmpty && ltK (q.tick b.keys (dlt d (q.w q.cur))).mn (b.keys.headD (0, 0)) (stepN q.v q.mn (dlt d (q.w q.cur)), q.cur)) = (ok && lt)) := Lib.hid (by
        refine ⟨HTK.out.1, ?_⟩
        rw [HTK.out.1, HTK.out.2, HFO.out.1, HFO.out.2]
        show (ok && ltK mn' fk (sv, q.cur)) = _
        rw [hlt])
      clear hlt HTK HFO HQ11 HK11 HZ11 HN11 HO11 HW11
      cases ok with
      | false =>
        obtain ⟨h0, h1, h2, h3, h4, h5, h6, h7, h8⟩ := HSX.out w11 HZ.out
        obtain ⟨v0, v1, v2, v3, v4, v5, v6⟩ := HFR.out w11 HZ.out
        obtain ⟨z0, z1, z2, z3, z4, z5, z6⟩ := HFC.out w11 HZ.out
        go_region
        all_goals
          have HP := Lib.hid (HFIN.out _ HZ.out)
          unfold putQ at HP
          dsimp only at HP
          clear HFIN HFR HSE HSX
          go_wp2
          obtain ⟨s0, s1, s2, s3, s4, s5, s6⟩ := HP.out.1.res
          refine bodyPost_ret (v := .tuple #[.agg #[.int .i64 q.t.root, .slice a4 q.t.ns.length c4, .int .i64 q.cur, .int .u64 sv, .int .u64 mn', .int .i64 q.load, .slice (some ⟨g, 0, none⟩) q.ws.length c5], .bool false, .int .i64 0]) (by simp [results, Tryz.results21, go_sem, s0, s1, s2, s3, s4, s5, s6]) rfl ?_
          rw [HEND.out.2, HEND.out.1]
          exact ⟨⟨_, rfl, HP.out.2.2.below (Below.refl _ _).drew⟩, HP.out.2.1.drew⟩
      | true =>
        obtain ⟨h0, h1, h2, h3, h4, h5, h6, h7, h8⟩ := HSX.out w11 HZ.out
        go_wp2_with fail
        go_region_held3 (fun X => (X.cell? ⟨W.heap.size, 0, none⟩ = some (.int .i64 q.t.root) ∧ X.cell? ⟨W.heap.size, 1, none⟩ = some (.slice a4 q.t.ns.length c4) ∧ X.cell? ⟨W.heap.size, 2, none⟩ = some (.int .i64 q.cur) ∧ X.cell? ⟨W.heap.size, 3, none⟩ = some (.int .u64 sv) ∧ X.cell? ⟨W.heap.size, 4, none⟩ = some (.int .u64 mn') ∧ X.cell? ⟨W.heap.size, 5, none⟩ = some (.int .i64 q.load) ∧ X.cell? ⟨W.heap.size, 6, none⟩ = some (.slice (some ⟨g, 0, none⟩) q.ws.length c5) ∧ X.cell? ⟨k, 0, none⟩ = some (.int .u64 fk.1) ∧ X.cell? ⟨k, 1, none⟩ = some (.int .i64 fk.2)))
          (first
            | with_reducible exact HSX.out _ HZ.out
            | with_reducible exact HSX.out _ HZD.out
            | with_reducible exact HSX.out _ HB12.out
            | with_reducible exact HSX.out _ HB13.out
            | exact HSE.out _ HB13.out _ rfl
            | go_keep)
          (first
            | (go_at_call 63; refine (HRN.out _).mono ?_; rintro e' w12 ⟨rfl, hb12⟩; have HB12 := Lib.hid (HZD.out.trans hb12); clear hb12)
            | (go_at_call 62; refine (HLE.out _).mono ?_; rintro e' w13 ⟨rfl, hg13⟩; have HB13 := Lib.hid (HB12.out.trans (hg13.below.mono HB12.out.size)); obtain ⟨v0, v1, v2, v3, v4, v5, v6⟩ := HFR.out w13 HB13.out; obtain ⟨z0, z1, z2, z3, z4, z5, z6⟩ := HFC.out w13 HB13.out; clear hg13))
        all_goals
          have HP := Lib.hid (HFIN.out _ HB13.out)
          unfold putQ at HP
          dsimp only at HP
          clear HFIN HFR HSE HSX
          go_wp2
          obtain ⟨s0, s1, s2, s3, s4, s5, s6⟩ := HP.out.1.res
          refine bodyPost_ret (v := .tuple #[.agg #[.int .i64 q.t.root, .slice a4 q.t.ns.length c4, .int .i64 q.cur, .int .u64 sv, .int .u64 mn', .int .i64 q.load, .slice (some ⟨g, 0, none⟩) q.ws.length c5], .bool lt, .int .i64 0]) (by simp [results, Tryz.results21, go_sem, s0, s1, s2, s3, s4, s5, s6]) rfl ?_
          rw [HEND.out.2, HEND.out.1]
          exact ⟨⟨_, rfl, HP.out.2.2⟩, HP.out.2.1⟩
    · have hne : (e != 0) = true := by simpa using he
      obtain ⟨rfl, rfl⟩ := HEQ.out.1 he
      obtain ⟨z0, z1, z2, z3, z4, z5, z6⟩ := HZC.out.all
      obtain ⟨y0, y1, y2, y3, y4, y5, y6⟩ := HZC.out.free
      have HP := Lib.hid (tellE HZC.out HBC.out (by omega))
      unfold putE at HP
      clear he HEQ HQC HZC HBC HD
      go_wp2
      obtain ⟨s0, s1, s2, s3, s4, s5, s6⟩ := HP.out.1
      exact bodyPost_ret (v := .tuple #[.agg #[.int .i64 0, .slice none 0 0, .int .i64 0, .int .u64 0, .int .u64 0, .int .i64 0, .slice none 0 0], .bool false, .int .i64 e]) (by simp [results, Tryz.results21, go_sem, s0, s1, s2, s3, s4, s5, s6]) rfl ⟨⟨_, rfl, Qr.zero _⟩, HP.out.2⟩
end Go.Proofs.YtpmknpdnhfnfcaaGreatDoor
