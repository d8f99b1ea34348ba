/-
  Contracts of queue's putBack and broughtUp.
-/
import Derived.Test.YtpmknpdnhfnfcaaGreatDoorQyE
namespace Go.Proofs.YtpmknpdnhfnfcaaGreatDoor
open Go.RowKit Go.Sort Ky Wd Tn Tr Wg Qu

set_option maxRecDepth 100000 in
set_option maxHeartbeats 2000000 in
theorem putBack_any {q : Q} {a a' : Option Addr} {n c n' c' : Nat} {W : World} (hN : Nds W (.slice a n c) q.t.ns) (hu : U q.v) (hi : I q.cur) {t' : T} (hI : Ins q.mn (q.v, q.cur) q.t t' 0) :
    Calls Tryz.prog 55 #[qv q (.slice a n c) (.slice a' n' c')] W fun e w' =>
      (∃ a2 c2, e = .returned (qv ({ q with t := t' } : Q).stop (.slice a2 t'.ns.length c2) (.slice a' n' c')) ∧ Nds w' (.slice a2 t'.ns.length c2) t'.ns) ∧ Below W.heap.size W w' := by
  have HW := Lib.hid (w2q_box W q (.slice a n c) (.slice a' n' c'))
  have HRN : Hid (∀ X, Calls Tryz.prog 63 #[qv q (.slice a n c) (.slice a' n' c')] X fun e w' => e = .returned (.agg #[.int .u64 q.v, .int .i64 q.cur]) ∧ Below X.heap.size X w') := Lib.hid (fun X => running_any q _ _ X)
  have HIN : Hid (∀ X, Below W.heap.size W X → Calls Tryz.prog 47 #[qv q (.slice a n c) (.slice a' n' c'), .agg #[.int .u64 q.v, .int .i64 q.cur]] X fun e w' => (∃ a2 c2, e = .returned (qv { q with t := t' } (.slice a2 t'.ns.length c2) (.slice a' n' c')) ∧ Nds w' (.slice a2 t'.ns.length c2) t'.ns) ∧ Below X.heap.size X w') := Lib.hid (fun X hX => inserted_any (k := (q.v, q.cur)) (hN.below hX) ⟨hu, hi⟩ hI)
  have HST : Hid (∀ X a2 c2, Calls Tryz.prog 52 #[qv { q with t := t' } (.slice a2 t'.ns.length c2) (.slice a' n' c')] X fun e w' => e = .returned (qv ({ q with t := t' } : Q).stop (.slice a2 t'.ns.length c2) (.slice a' n' c')) ∧ Below X.heap.size X w') := Lib.hid (fun X a2 c2 => stopped_any _ _ _ _ _ _ _ X)
  clear hN hu hi hI
  unfold w2q qo at HW
  unfold qv Q.stop at HST
  unfold qv at HRN HIN
  unfold qv Q.stop
  dsimp only at HST HIN ⊢
  go_enter Tryz.func55, Tryz.ntmps55
  go_upto_region 1 with fail
  generalize hp2 : W.heap.size + 1 = p2 at HW ⊢
  generalize (W.alloc _).alloc _ = w2 at HW ⊢
  have hlt2 := HW.out.2.1.lt
  obtain ⟨g0, g1, g2, g3, g4, g5, g6⟩ := HW.out.1.all
  go_wp2
  go_region_with (first
    | (go_at_call 63; refine (HRN.out _).mono ?_; rintro e' w3 ⟨rfl, hb3⟩; have HB3 := Lib.hid ((Below.refl w2.heap.size w2).drew.trans hb3); obtain ⟨m0, m1, m2, m3, m4, m5, m6⟩ := (HW.out.1.below HB3.out HW.out.1.lt).all; clear hb3)
    | (go_at_call 47; refine (HIN.out _ ?_).mono ?_; exact HW.out.2.2.trans (HB3.out.mono HW.out.2.2.size); rintro e' w4 ⟨⟨a4, c4, rfl, hn4⟩, hb4⟩; have HN4 := Lib.hid hn4; have HB4 := Lib.hid (HB3.out.trans (hb4.mono HB3.out.size)); clear hn4 hb4)
    | (go_at_call 52; refine (HST.out _ a4 c4).mono ?_; rintro e' w5 ⟨rfl, hb5⟩; have HN5 := Lib.hid (HN4.out.below hb5); have HB5 := Lib.hid (HB4.out.trans (hb5.mono HB4.out.size)); obtain ⟨v0, v1, v2, v3, v4, v5, v6⟩ := (HW.out.2.1.below HB5.out HW.out.2.1.lt).all; obtain ⟨x0, x1, x2, x3, x4, x5, x6⟩ := (HW.out.2.1.below HB5.out HW.out.2.1.lt).free; clear hb5))
  all_goals
    have HP : Hid (Qb (putQ w5 p2 ({ q with t := t' } : Q).stop (.slice a4 t'.ns.length c4) (.slice a' n' c')) p2 ({ q with t := t' } : Q).stop (.slice a4 t'.ns.length c4) (.slice a' n' c') ∧
        Below W.heap.size W (putQ w5 p2 ({ q with t := t' } : Q).stop (.slice a4 t'.ns.length c4) (.slice a' n' c')) ∧
        Nds (putQ w5 p2 ({ q with t := t' } : Q).stop (.slice a4 t'.ns.length c4) (.slice a' n' c')) (.slice a4 t'.ns.length c4) t'.ns) := Lib.hid (by
      have hz := HW.out.2.1.below HB5.out HW.out.2.1.lt
      exact ⟨hz.putQ _ _ _, belowQ (HW.out.2.2.trans (HB5.out.mono HW.out.2.2.size)) (by omega) _ _ _, HN5.out.putQ (HN5.out.off hz) _ _ _⟩)
    unfold putQ Q.stop at HP
    dsimp only at HP
    clear HB3 HB4 HB5 HN4 HN5 HW
    go_wp2
    obtain ⟨s0, s1, s2, s3, s4, s5, s6⟩ := HP.out.1.res
    exact bodyPost_ret (v := .agg #[.int .i64 t'.root, .slice a4 t'.ns.length c4, .int .i64 (-1), .int .u64 0, .int .u64 q.mn, .int .i64 q.load, .slice a' n' c']) (by simp [results, Tryz.results55, go_sem, s0, s1, s2, s3, s4, s5, s6]) rfl ⟨⟨_, _, rfl, HP.out.2.2⟩, HP.out.2.1⟩
end Go.Proofs.YtpmknpdnhfnfcaaGreatDoor
