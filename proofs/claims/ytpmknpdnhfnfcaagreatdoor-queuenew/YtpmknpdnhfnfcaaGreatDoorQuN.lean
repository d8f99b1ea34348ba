/-
  Contract of queue's Pick.
-/
import Derived.Test.YtpmknpdnhfnfcaaGreatDoorQyL
import Derived.Test.YtpmknpdnhfnfcaaGreatDoorQuH
import Derived.Test.YtpmknpdnhfnfcaaGreatDoorQuI
namespace Go.Proofs.YtpmknpdnhfnfcaaGreatDoor
open Go.RowKit Go.Sort Ky Wd Tn Tr Wg Qu

set_option maxRecDepth 100000 in
theorem empty_rz2 {W : World} {q : Q} {nv wv : Value} (hD : Qd W q nv wv) :
    Calls Tryz.prog 56 #[qv q nv wv] W fun en w' => (∃ b, en = .returned (.func (.func 104) #[] #[ptr b]) ∧ ∀ t, Whole q.t t → Rz w' (.func (.func 104) #[] #[ptr b]) 8 (decide (t.keys ++ q.run = []))) ∧ Below W.heap.size W w' := by
  have HB := Lib.hid (Gr.alloc W (qo q nv wv)).below
  have HR : Hid (∀ t, Whole q.t t → Rz (W.alloc (qo q nv wv)) (.func (.func 104) #[] #[ptr W.heap.size]) 8 (decide (t.keys ++ q.run = []))) := Lib.hid (fun t hb => .empty _ _ _ (empty_tells (Qb.new W q nv wv) (hD.below (Gr.alloc W (qo q nv wv)).below) hb))
  unfold qo at HB HR
  unfold qv
  go_enter Tryz.func56, Tryz.ntmps56
  go_wp2
  go_ret
  exact ⟨⟨_, rfl, HR.out⟩, HB.out⟩
theorem up_U {m : Int} {l : List K} (hm : U m) (hl : ∀ x ∈ l, Kin x) : U (upM m l) := by
  unfold upM
  split
  · exact hm
  · rename_i h
    refine U_lat hm ?_
    unfold firstK
    cases l with
    | nil => exact absurd rfl h
    | cons a t =>
      rcases fstK_mem m a t with e | e
      · show U (fstK m a t).1
        rw [e]; exact (hl a (by simp)).1
      · exact (hl _ (by simp only [List.mem_cons]; exact .inr e)).1
theorem Kb.otherQ {w : World} {n p : Nat} {k : K} (h : Kb w n k) (hne : n ≠ p) (q : Q) (nv wv : Value) : Kb (putQ w p q nv wv) n k :=
  ((((((h.other hne).other hne).other hne).other hne).other hne).other hne).other hne
set_option maxRecDepth 100000 in
theorem whyPick {X : World} {q q' : Q} {z e : Int} (hE : QPick q q' z e) {r : Bool} (hr : r = true ↔ RightQ q) {f0 f1 : Value}
    (h0 : Rz X f0 4 (!r)) (h1 : ∀ t, Whole q.t t → Rz X f1 8 (decide (t.keys ++ q.run = []))) :
    Calls Tryz.prog 40 #[.slice (some ⟨X.heap.size, 0, none⟩) 2 2] (X.alloc (.cells #[f0, f1] 71)) fun en w' => en = .returned (.int .i64 e) ∧ Below X.heap.size X w' := by
  cases hE with
  | order h =>
    obtain rfl : r = false := by cases r with | false => rfl | true => exact absurd (hr.1 rfl) h
    exact why2 0 (by omega) noFirst (.inl ⟨by omega, h0⟩)
  | idle h hc hb =>
    obtain rfl : r = true := hr.2 h
    have h1 := h1 _ hb
    rw [decide_eq_true (by rw [run_no hc]; rfl)] at h1
    exact why2 1 (by omega) (one1 h0) (.inl ⟨by omega, h1⟩)
  | one h hc b hb x l hx t' hD b' hb' =>
    obtain rfl : r = true := hr.2 h
    have h1 := h1 _ hb
    rw [decide_eq_false (by rw [hx]; simp)] at h1
    exact why2 2 (by omega) (two2 h0 h1) (.inr ⟨rfl, rfl⟩)
  | two h hc t1 hI b hb x l hx t' hD b' hb' =>
    obtain rfl : r = true := hr.2 h
    obtain ⟨b0, hb0, -⟩ := h
    have h1 := h1 _ hb0
    rw [decide_eq_false (by rw [run_yes hc]; simp)] at h1
    exact why2 2 (by omega) (two2 h0 h1) (.inr ⟨rfl, rfl⟩)

/-- What a Pick that is done has come to. -/
structure Pk (q q1 q' : Q) (z : Int) : Prop where
  ex : ∃ (b : B) (x : K) (l : List K) (t' : T) (b' : B), Whole q1.t b ∧ b.keys = x :: l ∧ Del q1.mn x.2 q1.t t' 0 ∧ Whole t' b' ∧ q' = q.take t' x b'.keys ∧ z = x.2
  ws : q1.ws = q.ws
  mn : q1.mn = q.mn
  ld : q1.load = q.load

set_option maxRecDepth 100000 in
set_option maxHeartbeats 8000000 in
theorem Pick_q {q : Q} {nv wv : Value} {W : World} (hT : Tab W) (hQ : Qd W q nv wv) {q' : Q} {z e : Int} (hE : QPick q q' z e) :
    Calls Tryz.prog 20 #[qv q nv wv] W fun en w' => (∃ v', en = .returned (.tuple #[v', .int .i64 z, .int .i64 e]) ∧ Qr w' v' q') ∧ Below W.heap.size W w' := by
  have HD := Lib.hid hQ
  obtain ⟨a, c, rfl, -, -⟩ := hQ.nds.len
  obtain ⟨a', c', rfl, -, -, -⟩ := hQ.ints
  have HW := Lib.hid (w2q_box W q (.slice a q.t.ns.length c) (.slice a' q.ws.length c'))
  obtain ⟨r, hr⟩ := right_bool q
  have HR0 : Hid (∀ X, Below W.heap.size W X → Calls Tryz.prog 41 #[qv q (.slice a q.t.ns.length c) (.slice a' q.ws.length c')] X fun en w' => (∃ b, en = .returned (.func (.func 90) #[] #[ptr b]) ∧ Rz w' (.func (.func 90) #[] #[ptr b]) 4 (!r)) ∧ Below X.heap.size X w') := Lib.hid (fun X hX => notRight_rz (hT.below hX) (hQ.below hX) hr)
  have HR1 : Hid (∀ X, Below W.heap.size W X → Calls Tryz.prog 56 #[qv q (.slice a q.t.ns.length c) (.slice a' q.ws.length c')] X fun en w' => (∃ b, en = .returned (.func (.func 104) #[] #[ptr b]) ∧ ∀ t, Whole q.t t → Rz w' (.func (.func 104) #[] #[ptr b]) 8 (decide (t.keys ++ q.run = []))) ∧ Below X.heap.size X w') := Lib.hid (fun X hX => empty_rz2 (hQ.below hX))
  have HY : Hid (∀ X f0 f1, Rz X f0 4 (!r) → (∀ t, Whole q.t t → Rz X f1 8 (decide (t.keys ++ q.run = []))) → Calls Tryz.prog 40 #[.slice (some ⟨X.heap.size, 0, none⟩) 2 2] (X.alloc (.cells #[f0, f1] 71)) fun en w' => en = .returned (.int .i64 e) ∧ Below X.heap.size X w') := Lib.hid (fun X f0 f1 h0 h1 => whyPick hE hr h0 h1)
  have HE := Lib.hid hE
  clear hT hQ hE hr
  unfold w2q qo at HW
  unfold qv at HR0 HR1
  unfold qv
  go_enter Tryz.func20, Tryz.ntmps20
  go_upto_region 1 with fail
  generalize hp2 : W.heap.size + 1 = p2 at HW ⊢
  generalize (W.alloc _).alloc _ = w2 at HW ⊢
  have hlt2 := HW.out.2.1.lt
  go_cut [5] (fun s5 wx => s5 = .int .i64 e ∧ Hid (Below w2.heap.size w2 wx))
  case first =>
    have HSX : Hid (∀ X, Below w2.heap.size w2 X → (X.cell? ⟨W.heap.size, 0, none⟩ = some (.int .i64 q.t.root) ∧ X.cell? ⟨W.heap.size, 1, none⟩ = some (.slice a q.t.ns.length c) ∧ X.cell? ⟨W.heap.size, 2, none⟩ = some (.int .i64 q.cur) ∧ X.cell? ⟨W.heap.size, 3, none⟩ = some (.int .u64 q.v) ∧ X.cell? ⟨W.heap.size, 4, none⟩ = some (.int .u64 q.mn) ∧ X.cell? ⟨W.heap.size, 5, none⟩ = some (.int .i64 q.load) ∧ X.cell? ⟨W.heap.size, 6, none⟩ = some (.slice a' q.ws.length c'))) := Lib.hid (fun X hX => (HW.out.1.below hX HW.out.1.lt).all)
    have HWX : Hid (∀ X, Below w2.heap.size w2 X → Below W.heap.size W X) := Lib.hid (fun X hX => HW.out.2.2.trans (hX.mono HW.out.2.2.size))
    obtain ⟨h0, h1, h2, h3, h4, h5, h6⟩ := HSX.out w2 (Below.refl _ _)
    have HZ : Hid (Below w2.heap.size w2 w2) := Lib.hid (Below.refl _ _)
    have HZD : Hid (Below w2.heap.size w2 w2.drew) := Lib.hid (Below.refl _ _).drew
    clear HD HE HW
    go_wp2_with fail
    go_region_held3 (fun X => (X.cell? ⟨W.heap.size, 0, none⟩ = some (.int .i64 q.t.root) ∧ X.cell? ⟨W.heap.size, 1, none⟩ = some (.slice a q.t.ns.length c) ∧ X.cell? ⟨W.heap.size, 2, none⟩ = some (.int .i64 q.cur) ∧ X.cell? ⟨W.heap.size, 3, none⟩ = some (.int .u64 q.v) ∧ X.cell? ⟨W.heap.size, 4, none⟩ = some (.int .u64 q.mn) ∧ X.cell? ⟨W.heap.size, 5, none⟩ = some (.int .i64 q.load) ∧ X.cell? ⟨W.heap.size, 6, none⟩ = some (.slice a' q.ws.length c')))
      (first
        | with_reducible exact HSX.out _ HZ.out
        | with_reducible exact HSX.out _ HZD.out
        | with_reducible exact HSX.out _ HB3.out
        | with_reducible exact HSX.out _ HB6.out
        | with_reducible exact HSX.out _ HB6A.out
        | with_reducible exact HSX.out _ HB7.out
        | go_keep)
      (first
        | (go_at_call 41; refine (HR0.out _ (HWX.out _ HZD.out)).mono ?_; rintro e' w3 ⟨⟨b0, rfl, hz⟩, hb3⟩; have HB3 := Lib.hid (HZD.out.trans hb3); have HF0 := Lib.hid hz; clear hz hb3)
        | (go_at_call 56; refine (HR1.out _ (HWX.out _ HB3.out)).mono ?_; rintro e' w6 ⟨⟨b3, rfl, hz⟩, hb6⟩; have HB6 := Lib.hid (HB3.out.trans (hb6.mono HB3.out.size)); have HC := Lib.hid (HY.out w6 _ _ (HF0.out.below hb6) hz); have HB6A := Lib.hid (HB6.out.alloc HB6.out.size (.cells #[.func (.func 90) #[] #[ptr b0], .func (.func 104) #[] #[ptr b3]] 71)); clear hz hb6)
        | (go_at_call 40; refine HC.out.mono ?_; rintro e' w7 ⟨rfl, hb7⟩; have HB7 := Lib.hid (HB6.out.trans (hb7.mono HB6.out.size)); clear hb7))
    all_goals
      go_wp2_with fail
      go_meet
      case rel => exact ⟨rfl, Lib.hid HB7.out⟩
  case rest =>
    obtain ⟨rfl, HC⟩ := hcut
    obtain ⟨w3, rfl⟩ : ∃ w3, w3 = wc := ⟨_, rfl⟩
    have HQC := Lib.hid (HW.out.1.below HC.out HW.out.1.lt)
    have HZC := Lib.hid (HW.out.2.1.below HC.out hlt2)
    have HBC := Lib.hid (HW.out.2.2.trans (HC.out.mono HW.out.2.2.size))
    have HLT : Hid (p2 < w3.heap.size) := Lib.hid (Nat.lt_of_lt_of_le hlt2 HC.out.size)
    clear HW HC HR0 HR1 HY hlt2
    have HEQ : Hid ((e ≠ 0 → q' = qE ∧ z = 0) ∧ (e = 0 → RightQ q ∧ ((q.cur = -1 ∧ Pk q q q' z) ∨ (q.cur ≠ -1 ∧ ∃ t1, Ins q.mn (q.v, q.cur) q.t t1 0 ∧ Pk q ({ q with t := t1 } : Q).stop q' z)))) := Lib.hid (by
      cases HE.out with
      | order h => exact ⟨fun _ => ⟨rfl, rfl⟩, fun h => by cases h⟩
      | idle h hc hb => exact ⟨fun _ => ⟨rfl, rfl⟩, fun h => by cases h⟩
      | one h hc b hb x l hx t' hD b' hb' => exact ⟨fun h => absurd rfl h, fun _ => ⟨h, .inl ⟨hc, ⟨b, x, l, t', b', hb, hx, hD, hb', rfl, rfl⟩, rfl, rfl, rfl⟩⟩⟩
      | two h hc t1 hI b hb x l hx t' hD b' hb' => exact ⟨fun h => absurd rfl h, fun _ => ⟨h, .inr ⟨hc, t1, hI, ⟨b, x, l, t', b', hb, hx, hD, hb', rfl, rfl⟩, rfl, rfl, rfl⟩⟩⟩)
    clear HE
    by_cases he : e = 0
    · subst he
      obtain ⟨hrq, hway⟩ := HEQ.out.2 rfl
      have HLN : Hid (q.ws.length = q.t.ns.length ∧ q.t.ns.length ≤ 64) := Lib.hid (by obtain ⟨b, hb, -, -, hw, -⟩ := hrq; exact ⟨hw.1, hb.len⟩)
      clear HEQ hrq
      -- q = own(q)
      have HOW := Lib.hid (own_any (HD.out.below HBC.out) (by have := HLN.out; omega) (by have := HLN.out; omega))
      unfold qv at HOW
      obtain ⟨g0, g1, g2, g3, g4, g5, g6⟩ := HQC.out.all
      go_wp2_with fail
      refine HOW.out.mono ?_
      rintro e' w4 ⟨⟨a4, c4, a5, c5, rfl, hw4⟩, hb4⟩
      have HQ4 := Lib.hid (HQC.out.below hb4 HQC.out.lt)
      have HZ4 := Lib.hid (HZC.out.below hb4 HLT.out)
      have HB4 := Lib.hid (HBC.out.trans (hb4.mono HBC.out.size))
      have HO4 := Lib.hid hw4
      have HLW : Hid (p2 < w4.heap.size ∧ W.heap.size < w3.heap.size ∧ w3.heap.size ≤ w4.heap.size) := Lib.hid ⟨Nat.lt_of_lt_of_le HLT.out hb4.size, HQC.out.lt, hb4.size⟩
      clear HOW hw4 hb4 g0 g1 g2 g3 g4 g5 g6 HD
      have HP5 : Hid (Qb (putQ w4 W.heap.size q (.slice a4 q.t.ns.length c4) (.slice a5 q.ws.length c5)) W.heap.size q (.slice a4 q.t.ns.length c4) (.slice a5 q.ws.length c5) ∧
          Qb (putQ w4 W.heap.size q (.slice a4 q.t.ns.length c4) (.slice a5 q.ws.length c5)) p2 qE (.slice none 0 0) (.slice none 0 0) ∧
          Below W.heap.size W (putQ w4 W.heap.size q (.slice a4 q.t.ns.length c4) (.slice a5 q.ws.length c5)) ∧
          Qw (putQ w4 W.heap.size q (.slice a4 q.t.ns.length c4) (.slice a5 q.ws.length c5)) w3.heap.size q (.slice a4 q.t.ns.length c4) (.slice a5 q.ws.length c5) ∧
          w3.heap.size ≤ (putQ w4 W.heap.size q (.slice a4 q.t.ns.length c4) (.slice a5 q.ws.length c5)).heap.size) := Lib.hid
        ⟨HQ4.out.putQ _ _ _, HZ4.out.otherQ (by omega) _ _ _, belowQ HB4.out (Nat.le_refl _) _ _ _, HO4.out.putQ (by have := HLW.out; omega) _ _ _, Nat.le_trans HLW.out.2.2 (belowQ (Below.refl 0 w4) (Nat.zero_le _) q _ _).size⟩
      unfold putQ at HP5
      obtain ⟨g0, g1, g2, g3, g4, g5, g6⟩ := HQ4.out.all
      obtain ⟨f0, f1, f2, f3, f4, f5, f6⟩ := HQ4.out.free
      go_upto_region 5 with fail
      generalize ((((((w4.setCell ⟨W.heap.size, 0, none⟩ (.int .i64 q.t.root)).setCell ⟨W.heap.size, 1, none⟩ (.slice a4 q.t.ns.length c4)).setCell ⟨W.heap.size, 2, none⟩ (.int .i64 q.cur)).setCell ⟨W.heap.size, 3, none⟩ (.int .u64 q.v)).setCell ⟨W.heap.size, 4, none⟩ (.int .u64 q.mn)).setCell ⟨W.heap.size, 5, none⟩ (.int .i64 q.load)).setCell ⟨W.heap.size, 6, none⟩ (.slice a5 q.ws.length c5) = w5 at HP5 ⊢
      clear HQC HZC HBC HQ4 HZ4 HB4 HO4 g0 g1 g2 g3 g4 g5 g6 f0 f1 f2 f3 f4 f5 f6
      obtain ⟨g0, g1, g2, g3, g4, g5, g6⟩ := HP5.out.1.all
      obtain ⟨f0, f1, f2, f3, f4, f5, f6⟩ := HP5.out.1.free
      go_upto_if 22 with fail
      go_cut [] (fun wx => ∃ (q1 : Q) (a6 : Option Addr) (c6 : Nat), Hid (Pk q q1 q' z ∧ Qb wx W.heap.size q1 (.slice a6 q1.t.ns.length c6) (.slice a5 q.ws.length c5) ∧ Qb wx p2 qE (.slice none 0 0) (.slice none 0 0) ∧ Below W.heap.size W wx ∧ Nds wx (.slice a6 q1.t.ns.length c6) q1.t.ns ∧ Own .i64 wx w3.heap.size 3 (.slice a5 q.ws.length c5) q.ws ∧ w3.heap.size ≤ wx.heap.size))
      case first =>
        rcases hway with ⟨hc, hpk⟩ | ⟨hc, t1, hI, hpk⟩
        · have HPK := Lib.hid hpk
          have hcc : (q.cur != -1) = false := by simp [hc]
          clear hc hpk g0 g1 g2 g3 g4 g5 g6 f0 f1 f2 f3 f4 f5 f6
          go_wp2_with fail
          go_meet
          case rel => exact ⟨q, a4, c4, Lib.hid ⟨HPK.out, HP5.out.1, HP5.out.2.1, HP5.out.2.2.1, HP5.out.2.2.2.1.nds, HP5.out.2.2.2.1.own, HP5.out.2.2.2.2⟩⟩
        · have HPK := Lib.hid hpk
          have hcc : (q.cur != -1) = true := by simpa using hc
          have HPB := Lib.hid (putBack_any (a' := a5) (n' := q.ws.length) (c' := c5) HP5.out.2.2.2.1.nds HP5.out.2.2.2.1.uv HP5.out.2.2.2.1.ic hI)
          unfold qv Q.stop at HPB
          dsimp only at HPB
          clear hc hpk hI
          go_wp2_with fail
          refine HPB.out.mono ?_
          rintro e' w6 ⟨⟨a6, c6, rfl, hn6⟩, hb6⟩
          have HP6 : Hid (Qb (putQ w6 W.heap.size ({ q with t := t1 } : Q).stop (.slice a6 t1.ns.length c6) (.slice a5 q.ws.length c5)) W.heap.size ({ q with t := t1 } : Q).stop (.slice a6 t1.ns.length c6) (.slice a5 q.ws.length c5) ∧
              Qb (putQ w6 W.heap.size ({ q with t := t1 } : Q).stop (.slice a6 t1.ns.length c6) (.slice a5 q.ws.length c5)) p2 qE (.slice none 0 0) (.slice none 0 0) ∧
              Below W.heap.size W (putQ w6 W.heap.size ({ q with t := t1 } : Q).stop (.slice a6 t1.ns.length c6) (.slice a5 q.ws.length c5)) ∧
              Nds (putQ w6 W.heap.size ({ q with t := t1 } : Q).stop (.slice a6 t1.ns.length c6) (.slice a5 q.ws.length c5)) (.slice a6 t1.ns.length c6) t1.ns ∧
              Own .i64 (putQ w6 W.heap.size ({ q with t := t1 } : Q).stop (.slice a6 t1.ns.length c6) (.slice a5 q.ws.length c5)) w3.heap.size 3 (.slice a5 q.ws.length c5) q.ws ∧
              w3.heap.size ≤ (putQ w6 W.heap.size ({ q with t := t1 } : Q).stop (.slice a6 t1.ns.length c6) (.slice a5 q.ws.length c5)).heap.size) := Lib.hid (by
            have h1 := HP5.out.1.below hb6 HP5.out.1.lt
            have h2 := HP5.out.2.1.below hb6 HP5.out.2.1.lt
            have h3 := HP5.out.2.2.1.trans (hb6.mono HP5.out.2.2.1.size)
            have h5 := hb6.size
            have h6 := HP5.out.2.2.2.2
            have h7 := HLW.out
            exact ⟨h1.putQ _ _ _, h2.otherQ (by omega) _ _ _, belowQ h3 (Nat.le_refl _) _ _ _, hn6.putQ (hn6.off h1) _ _ _, (HP5.out.2.2.2.1.own.below hb6).putQ (by omega) _ _ _, Nat.le_trans (Nat.le_trans h6 h5) (belowQ (Below.refl 0 w6) (Nat.zero_le _) _ _ _).size⟩)
          unfold putQ Q.stop at HP6
          dsimp only at HP6
          obtain ⟨m0, m1, m2, m3, m4, m5, m6⟩ := (HP5.out.1.below hb6 HP5.out.1.lt).all
          obtain ⟨n0, n1, n2, n3, n4, n5, n6⟩ := (HP5.out.1.below hb6 HP5.out.1.lt).free
          clear hn6 hb6 HPB g0 g1 g2 g3 g4 g5 g6 f0 f1 f2 f3 f4 f5 f6
          go_wp2_with fail
          go_meet
          case rel => exact ⟨_, a6, c6, Lib.hid ⟨HPK.out, HP6.out.1, HP6.out.2.1, HP6.out.2.2.1, HP6.out.2.2.2.1, HP6.out.2.2.2.2.1, HP6.out.2.2.2.2.2⟩⟩
      case rest =>
        obtain ⟨q1, a6, c6, HX⟩ := hcut
        have HKI := Lib.hid (And.intro HP5.out.2.2.2.1.wf (And.intro HP5.out.2.2.2.1.um (show w3.heap.size > p2 ∧ w3.heap.size > W.heap.size from ⟨HLT.out, HLW.out.2.1⟩)))
        clear HP5 hway g0 g1 g2 g3 g4 g5 g6 f0 f1 f2 f3 f4 f5 f6
        obtain ⟨⟨⟨b, x, l, t', b', hb, hx, hD, hb', rfl, rfl⟩, hws, hmn, hld⟩, hq0, hz0, hbw, hn0, ho0, hs0⟩ := HX.out
        have HQ6 := Lib.hid hq0
        have HZ6 := Lib.hid hz0
        have HB6 := Lib.hid hbw
        have HN6 := Lib.hid hn0
        have HO6 := Lib.hid ho0
        have HS6 := Lib.hid hs0
        have HEX := Lib.hid (And.intro hws (And.intro hmn hld))
        have HXK : Hid (Kin x ∧ x.2 ≠ -1) := Lib.hid ⟨Sub.keyU hn0.us hb.len hb.sub x (by rw [hx]; simp), by
          cases hD with
          | done h hk hi _ hr => have := hk.1; omega⟩
        have HFI := Lib.hid (First_at hn0 (l := b.keys) (.inl ⟨b, hb, rfl⟩))
        rw [hx] at HFI
        change Hid (Calls Tryz.prog _ _ _ fun e w' => e = .returned (.tuple #[.agg #[.int .u64 x.1, .int .i64 x.2], .bool true]) ∧ Below _ _ w') at HFI
        have HDL : Hid (∀ X, Below wc.heap.size wc X → Calls Tryz.prog 53 #[qv q1 (.slice a6 q1.t.ns.length c6) (.slice a5 q.ws.length c5), .int .i64 x.2] X fun e w' => (∃ a2 c2, e = .returned (qv { q1 with t := t' } (.slice a2 t'.ns.length c2) (.slice a5 q.ws.length c5)) ∧ Nds w' (.slice a2 t'.ns.length c2) t'.ns) ∧ Below X.heap.size X w') := Lib.hid (fun X hX => deleted_any (hn0.below hX) hD)
        have HWB := Lib.hid hb'
        clear HX hq0 hz0 hbw hn0 ho0 hs0 hb hx hD hws hmn hld hb'
        unfold qv at HDL
        dsimp only at HDL
        obtain ⟨g0, g1, g2, g3, g4, g5, g6⟩ := HQ6.out.all
        go_wp2_with fail
        refine HFI.out.mono ?_
        rintro e' w7 ⟨rfl, hb7⟩
        have HB67 := Lib.hid hb7
        go_upto_region 8 with fail
        have HA8 := Lib.hid ((Below.refl w7.heap.size w7).alloc (Nat.le_refl _) (.cells #[.int .u64 x.1, .int .i64 x.2] 57))
        have HK8 := Lib.hid (Kb.new w7 x)
        have HKN : Hid (wc.heap.size ≤ w7.heap.size) := Lib.hid hb7.size
        have HB8 := Lib.hid (HB67.out.trans (HA8.out.mono HB67.out.size))
        clear hb7 HB67 HFI g0 g1 g2 g3 g4 g5 g6
        generalize w7.heap.size = k at HK8 HKN HA8 ⊢
        generalize w7.alloc (.cells #[.int .u64 x.1, .int .i64 x.2] 57) = w8 at HK8 HB8 HA8 ⊢
        have HQ8 := Lib.hid (HQ6.out.below HB8.out HQ6.out.lt)
        have HZ8 := Lib.hid (HZ6.out.below HB8.out HZ6.out.lt)
        have HO8 := Lib.hid (HO6.out.below HB8.out)
        have HW8 := Lib.hid (HB6.out.trans (HB8.out.mono HB6.out.size))
        have HC := Lib.hid (HDL.out w8 HB8.out)
        have HSZ : Hid (W.heap.size < k ∧ p2 < k) := Lib.hid (by have := HKN.out; have := HS6.out; have := HKI.out.2.2; omega)
        obtain ⟨g0, g1, g2, g3, g4, g5, g6⟩ := HQ8.out.all
        obtain ⟨k0, k1, -, -, -⟩ := HK8.out.all
        clear HQ6 HZ6 HO6 HB6 HDL HA8 HN6
        go_wp2_with fail
        refine HC.out.mono ?_
        rintro e' w9 ⟨⟨a9, c9, rfl, hn9⟩, hb9⟩
        have HP9 : Hid (Qb (putQ w9 W.heap.size { q1 with t := t' } (.slice a9 t'.ns.length c9) (.slice a5 q.ws.length c5)) W.heap.size { q1 with t := t' } (.slice a9 t'.ns.length c9) (.slice a5 q.ws.length c5) ∧
            Qb (putQ w9 W.heap.size { q1 with t := t' } (.slice a9 t'.ns.length c9) (.slice a5 q.ws.length c5)) p2 qE (.slice none 0 0) (.slice none 0 0) ∧
            Below W.heap.size W (putQ w9 W.heap.size { q1 with t := t' } (.slice a9 t'.ns.length c9) (.slice a5 q.ws.length c5)) ∧
            Nds (putQ w9 W.heap.size { q1 with t := t' } (.slice a9 t'.ns.length c9) (.slice a5 q.ws.length c5)) (.slice a9 t'.ns.length c9) t'.ns ∧
            Own .i64 (putQ w9 W.heap.size { q1 with t := t' } (.slice a9 t'.ns.length c9) (.slice a5 q.ws.length c5)) w3.heap.size 3 (.slice a5 q.ws.length c5) q.ws ∧
            Kb (putQ w9 W.heap.size { q1 with t := t' } (.slice a9 t'.ns.length c9) (.slice a5 q.ws.length c5)) k x) := Lib.hid (by
          have h1 := HQ8.out.below hb9 HQ8.out.lt
          have h2 := HZ8.out.below hb9 HZ8.out.lt
          have h3 := HW8.out.trans (hb9.mono HW8.out.size)
          have h6 := HSZ.out
          have h7 := HKI.out.2.2
          exact ⟨h1.putQ _ _ _, h2.otherQ (by omega) _ _ _, belowQ h3 (Nat.le_refl _) _ _ _, hn9.putQ (hn9.off h1) _ _ _, (HO8.out.below hb9).putQ (by omega) _ _ _, (HK8.out.below hb9 HK8.out.lt).otherQ (by omega) _ _ _⟩)
        unfold putQ at HP9
        dsimp only at HP9
        obtain ⟨m0, m1, m2, m3, m4, m5, m6⟩ := (HQ8.out.below hb9 HQ8.out.lt).all
        obtain ⟨n0, n1, n2, n3, n4, n5, n6⟩ := (HQ8.out.below hb9 HQ8.out.lt).free
        clear hn9 hb9 HC g0 g1 g2 g3 g4 g5 g6 k0 k1 HQ8 HZ8 HO8 HW8 HB8 HK8
        go_upto_region 9 with fail
        generalize ((((((w9.setCell ⟨W.heap.size, 0, none⟩ (.int .i64 t'.root)).setCell ⟨W.heap.size, 1, none⟩ (.slice a9 t'.ns.length c9)).setCell ⟨W.heap.size, 2, none⟩ (.int .i64 q1.cur)).setCell ⟨W.heap.size, 3, none⟩ (.int .u64 q1.v)).setCell ⟨W.heap.size, 4, none⟩ (.int .u64 q1.mn)).setCell ⟨W.heap.size, 5, none⟩ (.int .i64 q1.load)).setCell ⟨W.heap.size, 6, none⟩ (.slice a5 q.ws.length c5) = w10 at HP9 ⊢
        clear m0 m1 m2 m3 m4 m5 m6 n0 n1 n2 n3 n4 n5 n6
        obtain ⟨m0, m1, m2, m3, m4, m5, m6⟩ := HP9.out.1.all
        obtain ⟨n0, n1, n2, n3, n4, n5, n6⟩ := HP9.out.1.free
        obtain ⟨k0, k1, -, -, -⟩ := HP9.out.2.2.2.2.2.all
        have hkp : ¬ k = W.heap.size := by have := HSZ.out; omega
        go_region
        have HP11 : Hid (Qb ((w10.setCell ⟨W.heap.size, 2, none⟩ (.int .i64 x.2)).setCell ⟨W.heap.size, 3, none⟩ (.int .u64 x.1)).drew W.heap.size ⟨t', x.2, x.1, q1.mn, q1.load, q1.ws⟩ (.slice a9 t'.ns.length c9) (.slice a5 q.ws.length c5) ∧
            Qb ((w10.setCell ⟨W.heap.size, 2, none⟩ (.int .i64 x.2)).setCell ⟨W.heap.size, 3, none⟩ (.int .u64 x.1)).drew p2 qE (.slice none 0 0) (.slice none 0 0) ∧
            Below W.heap.size W ((w10.setCell ⟨W.heap.size, 2, none⟩ (.int .i64 x.2)).setCell ⟨W.heap.size, 3, none⟩ (.int .u64 x.1)).drew ∧
            Nds ((w10.setCell ⟨W.heap.size, 2, none⟩ (.int .i64 x.2)).setCell ⟨W.heap.size, 3, none⟩ (.int .u64 x.1)).drew (.slice a9 t'.ns.length c9) t'.ns ∧
            Own .i64 ((w10.setCell ⟨W.heap.size, 2, none⟩ (.int .i64 x.2)).setCell ⟨W.heap.size, 3, none⟩ (.int .u64 x.1)).drew w3.heap.size 3 (.slice a5 q.ws.length c5) q.ws ∧
            Kb ((w10.setCell ⟨W.heap.size, 2, none⟩ (.int .i64 x.2)).setCell ⟨W.heap.size, 3, none⟩ (.int .u64 x.1)).drew k x) := Lib.hid (by
          have h6 := HSZ.out
          have h7 := HKI.out.2.2
          exact ⟨(HP9.out.1.putC x.2).putV x.1, (HP9.out.2.1.other (by omega) _ _).other (by omega) _ _,
            ((HP9.out.2.2.1.setCell (p := ⟨W.heap.size, 2, none⟩) (Nat.le_refl _) _).setCell (p := ⟨W.heap.size, 3, none⟩) (Nat.le_refl _) _).drew,
            (HP9.out.2.2.2.1.aw (HP9.out.2.2.2.1.off HP9.out.1) _ _).aw (HP9.out.2.2.2.1.off HP9.out.1) _ _,
            (HP9.out.2.2.2.2.1.aw (by omega) _ _).aw (by omega) _ _, (HP9.out.2.2.2.2.2.other (by omega)).other (by omega)⟩)
        generalize ((w10.setCell ⟨W.heap.size, 2, none⟩ (.int .i64 x.2)).setCell ⟨W.heap.size, 3, none⟩ (.int .u64 x.1)).drew = w11 at HP11 ⊢
        clear HP9 m0 m1 m2 m3 m4 m5 m6 n0 n1 n2 n3 n4 n5 n6 k0 k1
        have HBU : Hid (∀ X, Below w11.heap.size w11 X → Calls Tryz.prog 58 #[qv ⟨t', x.2, x.1, q1.mn, q1.load, q1.ws⟩ (.slice a9 t'.ns.length c9) (.slice a5 q.ws.length c5)] X fun e w' => e = .returned (qv (q.take t' x b'.keys) (.slice a9 t'.ns.length c9) (.slice a5 q.ws.length c5)) ∧ Below X.heap.size X w') := Lib.hid (fun X hX => by
          have hd : Qd X ⟨t', x.2, x.1, q1.mn, q1.load, q1.ws⟩ (.slice a9 t'.ns.length c9) (.slice a5 q.ws.length c5) := by
            have h1 := (HP11.out.2.2.2.2.1.ints HKI.out.1).below hX
            rw [← HEX.out.1] at h1
            exact ⟨HP11.out.2.2.2.1.below hX, by rw [← HEX.out.1] ; exact h1, HXK.out.1.1, by rw [show (⟨t', x.2, x.1, q1.mn, q1.load, q1.ws⟩ : Q).mn = q.mn from HEX.out.2.1]; exact HKI.out.2.1, HXK.out.1.2⟩
          have he : ({ (⟨t', x.2, x.1, q1.mn, q1.load, q1.ws⟩ : Q) with mn := upM q1.mn (b'.keys ++ (⟨t', x.2, x.1, q1.mn, q1.load, q1.ws⟩ : Q).run) } : Q) = q.take t' x b'.keys := by
            rw [run_yes (q := ⟨t', x.2, x.1, q1.mn, q1.load, q1.ws⟩) HXK.out.2]
            unfold Q.take
            rw [HEX.out.1, HEX.out.2.1, HEX.out.2.2]
          rw [← he]
          exact broughtUp_any hd HWB.out)
        unfold qv Q.take at HBU
        dsimp only at HBU
        obtain ⟨m0, m1, m2, m3, m4, m5, m6⟩ := HP11.out.1.all
        obtain ⟨k0, k1, -, -, -⟩ := HP11.out.2.2.2.2.2.all
        have hlt2 := HP11.out.2.1.lt
        have HSX : Hid (∀ X, Below w11.heap.size w11 X → (X.cell? ⟨W.heap.size, 0, none⟩ = some (.int .i64 t'.root) ∧ X.cell? ⟨W.heap.size, 1, none⟩ = some (.slice a9 t'.ns.length c9) ∧ X.cell? ⟨W.heap.size, 2, none⟩ = some (.int .i64 x.2) ∧ X.cell? ⟨W.heap.size, 3, none⟩ = some (.int .u64 x.1) ∧ X.cell? ⟨W.heap.size, 4, none⟩ = some (.int .u64 q1.mn) ∧ X.cell? ⟨W.heap.size, 5, none⟩ = some (.int .i64 q1.load) ∧ X.cell? ⟨W.heap.size, 6, none⟩ = some (.slice a5 q.ws.length c5) ∧ X.cell? ⟨k, 1, none⟩ = some (.int .i64 x.2))) := Lib.hid (fun X hX => by
          obtain ⟨c0, c1, c2, c3, c4, c5', c6⟩ := (HP11.out.1.below hX HP11.out.1.lt).all
          obtain ⟨-, e1, -⟩ := (HP11.out.2.2.2.2.2.below hX HP11.out.2.2.2.2.2.lt).all
          exact ⟨c0, c1, c2, c3, c4, c5', c6, e1⟩)
        have HSE : Hid (∀ Y, Below w11.heap.size w11 Y → ∀ X, X = putQ Y p2 (q.take t' x b'.keys) (.slice a9 t'.ns.length c9) (.slice a5 q.ws.length c5) → (X.cell? ⟨W.heap.size, 0, none⟩ = some (.int .i64 t'.root) ∧ X.cell? ⟨W.heap.size, 1, none⟩ = some (.slice a9 t'.ns.length c9) ∧ X.cell? ⟨W.heap.size, 2, none⟩ = some (.int .i64 x.2) ∧ X.cell? ⟨W.heap.size, 3, none⟩ = some (.int .u64 x.1) ∧ X.cell? ⟨W.heap.size, 4, none⟩ = some (.int .u64 q1.mn) ∧ X.cell? ⟨W.heap.size, 5, none⟩ = some (.int .i64 q1.load) ∧ X.cell? ⟨W.heap.size, 6, none⟩ = some (.slice a5 q.ws.length c5) ∧ X.cell? ⟨k, 1, none⟩ = some (.int .i64 x.2))) := Lib.hid (fun Y hY X hX => by
          subst hX
          have h6 := HSZ.out
          obtain ⟨c0, c1, c2, c3, c4, c5', c6⟩ := ((HP11.out.1.below hY HP11.out.1.lt).otherQ (p' := p2) (by omega) (q.take t' x b'.keys) (.slice a9 t'.ns.length c9) (.slice a5 q.ws.length c5)).all
          obtain ⟨-, e1, -⟩ := ((HP11.out.2.2.2.2.2.below hY HP11.out.2.2.2.2.2.lt).otherQ (p := p2) (by omega) (q.take t' x b'.keys) (.slice a9 t'.ns.length c9) (.slice a5 q.ws.length c5)).all
          exact ⟨c0, c1, c2, c3, c4, c5', c6, e1⟩)
        unfold putQ Q.take at HSE
        dsimp only at HSE
        have HZ : Hid (Below w11.heap.size w11 w11) := Lib.hid (Below.refl _ _)
        have HZD : Hid (Below w11.heap.size w11 w11.drew) := Lib.hid (Below.refl _ _).drew
        go_wp2_with fail
        go_region_held3 (fun X => (X.cell? ⟨W.heap.size, 0, none⟩ = some (.int .i64 t'.root) ∧ X.cell? ⟨W.heap.size, 1, none⟩ = some (.slice a9 t'.ns.length c9) ∧ X.cell? ⟨W.heap.size, 2, none⟩ = some (.int .i64 x.2) ∧ X.cell? ⟨W.heap.size, 3, none⟩ = some (.int .u64 x.1) ∧ X.cell? ⟨W.heap.size, 4, none⟩ = some (.int .u64 q1.mn) ∧ X.cell? ⟨W.heap.size, 5, none⟩ = some (.int .i64 q1.load) ∧ X.cell? ⟨W.heap.size, 6, none⟩ = some (.slice a5 q.ws.length c5) ∧ X.cell? ⟨k, 1, none⟩ = some (.int .i64 x.2)))
          (first
            | with_reducible exact HSX.out _ HZ.out
            | with_reducible exact HSX.out _ HZD.out
            | with_reducible exact HSX.out _ HB12.out
            | exact HSE.out _ HB12.out _ rfl
            | go_keep)
          (first
            | (go_at_call 58; refine (HBU.out _ HZD.out).mono ?_; rintro e' w12 ⟨rfl, hb12⟩; have HB12 := Lib.hid (HZD.out.trans hb12); obtain ⟨v0, v1, v2, v3, v4, v5, v6⟩ := (HP11.out.2.1.below HB12.out hlt2).all; obtain ⟨x0, x1, x2, x3, x4, x5, x6⟩ := (HP11.out.2.1.below HB12.out hlt2).free; clear hb12))
        all_goals
          have HP : Hid (Qb (putQ w12 p2 (q.take t' x b'.keys) (.slice a9 t'.ns.length c9) (.slice a5 q.ws.length c5)) p2 (q.take t' x b'.keys) (.slice a9 t'.ns.length c9) (.slice a5 q.ws.length c5) ∧
              Below W.heap.size W (putQ w12 p2 (q.take t' x b'.keys) (.slice a9 t'.ns.length c9) (.slice a5 q.ws.length c5)) ∧
              Qr (putQ w12 p2 (q.take t' x b'.keys) (.slice a9 t'.ns.length c9) (.slice a5 q.ws.length c5)) (qv (q.take t' x b'.keys) (.slice a9 t'.ns.length c9) (.slice a5 q.ws.length c5)) (q.take t' x b'.keys)) := Lib.hid (by
            have hz := HP11.out.2.1.below HB12.out hlt2
            have hn := HP11.out.2.2.2.1.below HB12.out
            have h7 := HKI.out.2.2
            refine ⟨hz.putQ _ _ _, belowQ (HP11.out.2.2.1.trans (HB12.out.mono HP11.out.2.2.1.size)) (by omega) _ _ _, a9, c9, a5, c5, rfl, hn.putQ (hn.off hz) _ _ _, ((HP11.out.2.2.2.2.1.below HB12.out).ints HKI.out.1).putQ (HP11.out.2.2.2.2.1.off h7.1) _ _ _, HXK.out.1.1, ?_, HXK.out.1.2⟩
            show U (upM q.mn (b'.keys ++ [x]))
            exact up_U HKI.out.2.1 (fun y hy => by
              rcases List.mem_append.1 hy with h | h
              · exact Sub.keyU hn.us HWB.out.len HWB.out.sub y h
              · obtain rfl := List.mem_singleton.1 h; exact HXK.out.1))
          unfold putQ Q.take at HP
          dsimp only at HP
          clear HB12 HP11 HBU
          go_wp2
          obtain ⟨s0, s1, s2, s3, s4, s5, s6⟩ := HP.out.1.res
          exact bodyPost_ret (v := .tuple #[.agg #[.int .i64 t'.root, .slice a9 t'.ns.length c9, .int .i64 x.2, .int .u64 x.1, .int .u64 (upM q.mn (b'.keys ++ [x])), .int .i64 q.load, .slice a5 q.ws.length c5], .int .i64 x.2, .int .i64 0]) (by simp [results, Tryz.results20, go_sem, s0, s1, s2, s3, s4, s5, s6]) rfl ⟨⟨_, rfl, HP.out.2.2⟩, HP.out.2.1⟩
    · have hne : (e != 0) = true := by simpa using he
      obtain ⟨rfl, rfl⟩ := HEQ.out.1 he
      obtain ⟨z0, z1, z2, z3, z4, z5, z6⟩ := HZC.out.all
      obtain ⟨y0, y1, y2, y3, y4, y5, y6⟩ := HZC.out.free
      have HP := Lib.hid (tellE HZC.out HBC.out (by omega))
      unfold putE at HP
      clear he HEQ HQC HZC HBC HD
      go_wp2
      obtain ⟨s0, s1, s2, s3, s4, s5, s6⟩ := HP.out.1
      exact bodyPost_ret (v := .tuple #[.agg #[.int .i64 0, .slice none 0 0, .int .i64 0, .int .u64 0, .int .u64 0, .int .i64 0, .slice none 0 0], .int .i64 0, .int .i64 e]) (by simp [results, Tryz.results20, go_sem, s0, s1, s2, s3, s4, s5, s6]) rfl ⟨⟨_, rfl, Qr.zero _⟩, HP.out.2⟩
end Go.Proofs.YtpmknpdnhfnfcaaGreatDoor
