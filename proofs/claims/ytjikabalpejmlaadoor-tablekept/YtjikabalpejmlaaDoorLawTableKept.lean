/-
  TableKept returns true at every input, and turns nothing that was there: what a task is, stays, whatever its word goes through, but for EvExit; its handle stays, too. The tables of math/bits and of places are tied to the program's text.
-/
import Derived.Test.YtjikabalpejmlaaDoorTlX
import Derived.Test.YtjikabalpejmlaaDoorTlMz
import Derived.Test.YtjikabalpejmlaaDoorTlPl
import Derived.Deep.RegionHeld3
import Derived.Test.YtjikabalpejmlaaDoorPost
namespace Go.Proofs.YtjikabalpejmlaaDoor.tableKept
open Go.ChangeShapes Go.WideShapes Go.ChangeAt Go.RowKit Go.Deep Pk Lf
open Mk (V)

theorem wf16 (x : Int) : (Lit.int .i64 (x % 16)).wf = true ∧ (Lit.int .i64 (x.tmod 16)).wf = true := by
  have h1 : -16 < x.tmod 16 := by have := Int.lt_tmod_of_pos x (show (0 : Int) < 16 by decide); omega
  have h2 : x.tmod 16 < 16 := Int.tmod_lt_of_pos x (by decide)
  refine ⟨?_, ?_⟩ <;> simp [Lit.wf, IntKind.min, IntKind.max, IntKind.signed, IntKind.bits] <;> omega

set_option maxRecDepth 100000 in
set_option maxHeartbeats 16000000 in
theorem walk (vl : Value) (zs : List Int) (ve : Value) (es : List Int) (W : World) (hl : Ints .u16 W vl zs) (hev : Ints .u16 W ve es) (hO : Ok W) :
    Calls Tryd.prog 8 #[vl, ve] W fun e w' => e = .returned (.bool true) ∧ Below W.heap.size W w' := by
  obtain ⟨a, cap, rfl, -⟩ := id hl
  have HL0 := Lib.hid hl
  have HE0 := Lib.hid hev
  obtain ⟨ae, cape, rfl, hm, -, -⟩ := hev
  obtain ⟨n, hn⟩ : ∃ n, es.length = n := ⟨_, rfl⟩
  have HN := Lib.hid hn
  rw [hn] at HE0 hm ⊢
  clear hn
  have hq1 : n ≤ 9223372036854775807 := by unfold maxLen at hm; omega
  clear hm
  have HO := Lib.hid hO
  have H5 : Hid (five (madeT zs)) := Lib.hid (madeK_five zs _)
  clear hO hl
  go_enter Tryd.func8, Tryd.ntmps8
  go_wp2_with fail
  refine (awake_any W HO.out).mono ?_
  rintro e' w1 ⟨rfl, hb1⟩
  have HB1 := Lib.hid hb1
  have HMD := Lib.hid (made_any zs _ w1 (HL0.out.below hb1))
  clear hb1 HL0
  generalize madeT zs = t at HMD H5
  go_wp2_with fail
  refine HMD.out.mono ?_
  rintro e' w2 ⟨⟨a2, l2, p2, a3, l3, p3, rfl, hv⟩, hb⟩
  have HB := Lib.hid (bOn HB1.out hb)
  have hs3 := (Below.refl w2.heap.size w2).alloc (Nat.le_refl _) (.cells #[.slice a2 l2 p2, .slice a3 l3 p3] 25)
  have hs4 : Below w2.heap.size w2 ((w2.alloc (.cells #[.slice a2 l2 p2, .slice a3 l3 p3] 25)).alloc (.cells #[.slice a2 l2 p2, .slice a3 l3 p3] 25)) := hs3.alloc (Nat.le_of_lt (Bt.new w2 (.slice a2 l2 p2) (.slice a3 l3 p3)).lt) _
  have HB4 := Lib.hid hs4
  have HB6 := Lib.hid (((Bt.new w2 (.slice a2 l2 p2) (.slice a3 l3 p3)).below ((Below.refl _ _).alloc (Nat.le_refl _) (.cells #[.slice a2 l2 p2, .slice a3 l3 p3] 25))))
  have HB7 := Lib.hid (Bt.new (w2.alloc (.cells #[.slice a2 l2 p2, .slice a3 l3 p3] 25)) (.slice a2 l2 p2) (.slice a3 l3 p3))
  have HV2 := Lib.hid hv
  have HN67 : Hid (w2.heap.size + 1 = (w2.alloc (.cells #[.slice a2 l2 p2, .slice a3 l3 p3] 25)).heap.size) := Lib.hid (World.size_alloc _ _).symm
  rw [← HN67.out] at HB7
  clear hb hs3 hs4 hv HMD HB1 HN67
  go_upto_region 6 with fail
  generalize hn6 : w2.heap.size = n6 at HB4 HB6 HB7 ⊢
  generalize (w2.alloc _).alloc _ = w3 at HB4 HB6 HB7 ⊢
  have HS0 : Hid (Bv w3 n6 t) := Lib.hid ⟨_, _, _, _, _, _, HB6.out, HV2.out.below (hn6 ▸ HB4.out)⟩
  have HSZ : Hid (W.heap.size ≤ n6) := Lib.hid (hn6 ▸ HB.out.size)
  have HVA : Hid (∀ X, Below n6 w2 X → Tv X (.agg #[.slice a2 l2 p2, .slice a3 l3 p3]) t) := Lib.hid (fun X hX => HV2.out.below (hn6 ▸ hX))
  have HBX : Hid (∀ X, Below n6 w2 X → Below W.heap.size W X) := Lib.hid (fun X hX => HB.out.trans (hX.mono HSZ.out))
  clear hn6 HB HB6 HV2
  go_wp2
  go_loopw [8, 9, 10] (fun i p q wr => ∃ (j : Nat) (tt : Tl.T), j ≤ n ∧ j ≤ 60 ∧ i = .int .i64 j ∧ Hid (Bv wr n6 tt ∧ Bt wr (n6 + 1) (.slice a2 l2 p2) (.slice a3 l3 p3) ∧ Below n6 w2 wr ∧ five tt ∧ tt.ts = t.ts ∧ ∀ n, Tl.live tt.ws n = Tl.live t.ws n)) (fun i _ _ _ => 60 - (intOf i).toNat)
  case atStart => exact ⟨0, t, by omega, by omega, rfl, Lib.hid ⟨HS0.out, HB7.out, HB4.out, H5.out, rfl, fun _ => rfl⟩⟩
  case round =>
    obtain ⟨j, tt, hj, hj60, rfl, HJ⟩ := hrel
    have HR := Lib.hid HJ.out.2.1
    have HB := Lib.hid HJ.out.2.2.1
    have H5T := Lib.hid HJ.out.2.2.2.1
    have HTS := Lib.hid HJ.out.2.2.2.2.1
    have HLV := Lib.hid HJ.out.2.2.2.2.2
    obtain ⟨a4, l4, p4, a5, l5, p5, hbt, hvt⟩ := HJ.out.1
    have HBT := Lib.hid hbt
    have HVT := Lib.hid hvt
    clear HJ hbt hvt HS0 HB7 HB4
    by_cases hend : j < n ∧ j < 60
    case neg =>
      have HT5 : Hid (tt.ts.length = 5 ∧ t.ts.length = 5) := Lib.hid ⟨five_ts H5T.out, five_ts H5.out⟩
      obtain ⟨q0, q1, e, -, hI⟩ := id HVT.out
      simp only [Value.agg.injEq, Array.mk.injEq, List.cons.injEq, and_true] at e
      obtain ⟨rfl, rfl⟩ := e
      obtain ⟨q2, q3, e, -, hI2⟩ := id (HVA.out _ HB.out)
      simp only [Value.agg.injEq, Array.mk.injEq, List.cons.injEq, and_true] at e
      obtain ⟨rfl, rfl⟩ := e
      rcases Ks.parts hI with ⟨h, -⟩ | ⟨-, b, off, cap', hv, -, hbk, hc⟩
      · have := HT5.out.1; rw [h] at this; simp at this
      simp only [Value.slice.injEq] at hv
      obtain ⟨rfl, hl5, rfl⟩ := hv
      rw [HT5.out.1] at hl5 hc
      subst hl5
      rcases Ks.parts hI2 with ⟨h, -⟩ | ⟨-, b', off', cap'', hv, -, hbk', hc'⟩
      · have := HT5.out.2; rw [h] at this; simp at this
      simp only [Value.slice.injEq] at hv
      obtain ⟨rfl, hl3, rfl⟩ := hv
      rw [HT5.out.2] at hl3 hc'
      subst hl3
      rw [HTS.out] at hc
      have HGK : Hid (∀ k, k < 5 → ∀ X, Below wr.heap.size wr X → (X.cell? ⟨b, off + k * 3, none⟩ = some (.int .i64 (Tl.X t k).nice) ∧ X.cell? ⟨b, off + k * 3 + 1, none⟩ = some (.int .u64 ((Tl.X t k).mask : Int)) ∧ X.cell? ⟨b, off + k * 3 + 2, none⟩ = some (.int .i64 (Tl.X t k).lag)) ∧ X.cell? ⟨b', off' + k * 3, none⟩ = some (.int .i64 (Tl.X t k).nice) ∧ X.cell? ⟨b', off' + k * 3 + 1, none⟩ = some (.int .u64 ((Tl.X t k).mask : Int)) ∧ X.cell? ⟨b', off' + k * 3 + 2, none⟩ = some (.int .i64 (Tl.X t k).lag)) := Lib.hid (fun k hk X hX => by
        obtain ⟨z0, z1, z2⟩ := hc k hk
        obtain ⟨z3, z4, z5⟩ := hc' k hk
        exact ⟨⟨(hX.cell (p := ⟨b, off + k * 3, none⟩) hbk).trans z0, (hX.cell (p := ⟨b, off + k * 3 + 1, none⟩) hbk).trans z1, (hX.cell (p := ⟨b, off + k * 3 + 2, none⟩) hbk).trans z2⟩, (hX.cell (p := ⟨b', off' + k * 3, none⟩) hbk').trans z3, (hX.cell (p := ⟨b', off' + k * 3 + 1, none⟩) hbk').trans z4, (hX.cell (p := ⟨b', off' + k * 3 + 2, none⟩) hbk').trans z5⟩)
      have HGB : Hid (∀ X, Below wr.heap.size wr X → X.cell? ⟨n6, 0, none⟩ = some (.slice a4 l4 p4) ∧ X.cell? ⟨n6, 1, none⟩ = some (.slice (some ⟨b, off, none⟩) 5 p5) ∧ X.cell? ⟨n6 + 1, 0, none⟩ = some (.slice a2 l2 p2) ∧ X.cell? ⟨n6 + 1, 1, none⟩ = some (.slice (some ⟨b', off', none⟩) 5 p3)) := Lib.hid (fun X hX => by
        have g1 := (HBT.out.below hX).cells
        have g2 := (HR.out.below hX).cells
        exact ⟨g1.1, g1.2, g2.1, g2.2⟩)
      have HOR := Lib.hid (HO.out.below (HBX.out _ HB.out))
      have HT : Hid (∀ X Y, Below wr.heap.size wr X → Below X.heap.size X Y → Below wr.heap.size wr Y) := Lib.hid (fun X Y h1 h2 => bOn h1 h2)
      generalize hL : Tl.live t.ws t.ws.length = L
      have HLA : Hid (∀ X, Below wr.heap.size wr X → Calls Tryd.prog 23 #[.agg #[.slice a4 l4 p4, .slice (some ⟨b, off, none⟩) 5 p5]] X fun e w' => (∃ vs, e = .returned vs ∧ Hs w' vs L) ∧ Below X.heap.size X w') := Lib.hid (fun X hX => by
        rw [← hL, ← HLV.out, H5.out.2]
        have := live_any tt _ X (HVT.out.below hX) (HOR.out.below hX).1 (by rw [H5T.out.2]; decide)
        rw [H5T.out.2] at this
        exact this)
      have HLB : Hid (∀ X, Below wr.heap.size wr X → Calls Tryd.prog 23 #[.agg #[.slice a2 l2 p2, .slice (some ⟨b', off', none⟩) 5 p3]] X fun e w' => (∃ vs, e = .returned vs ∧ Hs w' vs L) ∧ Below X.heap.size X w') := Lib.hid (fun X hX => by
        rw [← hL]
        exact live_any t _ X ((HVA.out _ HB.out).below hX) (HOR.out.below hX).1 (by rw [H5.out.2]; decide))
      have HSM : Hid (∀ X va vb, Below wr.heap.size wr X → Hs X va L → Hs X vb L → Calls Tryd.prog 24 #[va, vb] X fun e w' => e = .returned (.bool true) ∧ Below wr.heap.size wr w') := Lib.hid (fun X va vb hX h1 h2 =>
        (rhandles_any L va vb X h1 h2).mono fun e w' h => ⟨h.1, HT.out X w' hX h.2⟩)
      have HBW : Hid (∀ X, Below wr.heap.size wr X → Below W.heap.size W X) := Lib.hid (fun X hX => (HBX.out _ HB.out).trans (hX.mono (HBX.out _ HB.out).size))
      have hcase : (j < n ∧ j = 60) ∨ j = n := by omega
      clear HE0 HN hI hI2 hbk hbk' hc hc' hL HSZ HVA HBX HO H5 HOR HVT HBT HR HB H5T HTS HLV HT5 hend hj hj60
      generalize wr = w0 at HGK HGB HT HLA HLB HSM HBW ⊢
      rcases hcase with ⟨h60, rfl⟩ | rfl
      all_goals
        go_upto_region 12 with fail
        go_wp2
        go_loopw [11] (fun i wx => ∃ k : Nat, k ≤ 5 ∧ i = .int .i64 k ∧ Hid (Below w0.heap.size w0 wx)) (fun i _ => 5 - (intOf i).toNat)
        case atStart => exact ⟨0, by omega, rfl, Lib.hid (Below.refl _ _)⟩
        case round =>
          obtain ⟨k, hk, rfl, HJ⟩ := hrel
          by_cases hk5 : k < 5
          · obtain ⟨⟨z0, z1, z2⟩, z3, z4, z5⟩ := HGK.out k hk5 _ HJ.out
            obtain ⟨-, x1, -, x3⟩ := HGB.out _ HJ.out
            generalize Tl.X t k = x at z0 z1 z2 z3 z4 z5
            have e1 : ∀ w, (binOp BinOp.neq 52 (.agg #[.int .i64 x.nice, .int .u64 (x.mask : Int), .int .i64 x.lag]) (.agg #[.int .i64 x.nice, .int .u64 (x.mask : Int), .int .i64 x.lag])).run Tryd.prog w = .ok (.bool false) w := fun w => neK x w
            have f0 : ∀ n, (wr.drewN n).cell? ⟨n6, 1, none⟩ = _ := fun n => x1
            have f1 : ∀ n, (wr.drewN n).cell? ⟨n6 + 1, 1, none⟩ = _ := fun n => x3
            have g0 : ∀ n, (wr.drewN n).cell? ⟨b, off + k * 3, none⟩ = _ := fun n => z0
            have g1 : ∀ n, (wr.drewN n).cell? ⟨b, off + k * 3 + 1, none⟩ = _ := fun n => z1
            have g2 : ∀ n, (wr.drewN n).cell? ⟨b, off + k * 3 + 2, none⟩ = _ := fun n => z2
            have g3 : ∀ n, (wr.drewN n).cell? ⟨b', off' + k * 3, none⟩ = _ := fun n => z3
            have g4 : ∀ n, (wr.drewN n).cell? ⟨b', off' + k * 3 + 1, none⟩ = _ := fun n => z4
            have g5 : ∀ n, (wr.drewN n).cell? ⟨b', off' + k * 3 + 2, none⟩ = _ := fun n => z5
            have hk5i : (k : Int) < 5 := by omega
            go_upto_region 15 with fail
            go_quiet (fail)
            go_wp2
            exact ⟨⟨k + 1, by omega, by go_num, Lib.hid (below_drewN HJ.out _)⟩, by simp [intOf]; omega⟩
          · obtain rfl : k = 5 := by omega
            go_upto_region 17 with fail
            have hD0 : Below w0.heap.size w0 wr.drew := HJ.out.drew
            have hx1 := HGB.out _ hD0
            clear HGK HJ
            go_region_held3 (fun X => X.cell? ⟨n6, 0, none⟩ = some (.slice a4 l4 p4) ∧ X.cell? ⟨n6, 1, none⟩ = some (.slice (some ⟨b, off, none⟩) 5 p5) ∧ X.cell? ⟨n6 + 1, 0, none⟩ = some (.slice a2 l2 p2) ∧ X.cell? ⟨n6 + 1, 1, none⟩ = some (.slice (some ⟨b', off', none⟩) 5 p3))
              (first
                | exact hx1
                | (with_reducible exact HGB.out _ (by assumption))
                | go_keep)
              (first
                | (go_at_call 23; with_reducible refine (HLA.out _ (by assumption)).mono ?_; rintro e' wA ⟨⟨vA, rfl, hKA⟩, hbA⟩; have hbA0 := HT.out _ _ (by assumption) hbA)
                | (go_at_call 23; with_reducible refine (HLB.out _ (by assumption)).mono ?_; rintro e' wB ⟨⟨vB, rfl, hKB⟩, hbB⟩; have hbB0 := HT.out _ _ (by assumption) hbB)
                | (go_at_call 24; first | (with_reducible refine (HSM.out _ _ _ (by assumption) (hKA.below hbB) hKB).mono ?_; rintro e' wS ⟨rfl, hbS⟩) | (with_reducible refine (HSM.out _ _ _ (by assumption) hKA (hKB.below hbA)).mono ?_; rintro e' wS ⟨rfl, hbS⟩)))
            all_goals
              go_wp2
              go_ret
              exact ⟨rfl, HBW.out _ (by assumption)⟩
    obtain ⟨hlt, hlt6⟩ := hend
    rcases HE0.out.parts with ⟨h, -⟩ | ⟨-, -, b, off, cap', hv, hbk, hc⟩
    · have := HN.out; rw [h] at this; simp at this; omega
    simp only [Value.slice.injEq] at hv
    obtain ⟨rfl, -, rfl⟩ := hv
    have k0 := ((HBX.out _ HB.out).cell (p := ⟨b, off + j, none⟩) hbk).trans (hc j (by rw [HN.out]; exact hlt))
    clear hbk hc
    generalize es.getD j 0 = z at k0
    have HEX : Hid (∀ Y s ev cpu, Below wr.heap.size wr Y → (Lit.int .i64 ev).wf = true → Calls Tryd.prog 19 #[.agg #[.slice a4 l4 p4, .slice a5 l5 p5], .int .i64 s, .int .i64 ev, .int .i64 cpu] Y fun e w' => (∃ (er : Int) (tN : Tl.T) (a0 : Option Addr) (l0 p0 : Nat) (a1 : Option Addr) (l1 p1 : Nat), e = .returned (.tuple #[.agg #[.slice a0 l0 p0, .slice a1 l1 p1], .int .i64 er]) ∧ Hid (Tv w' (.agg #[.slice a0 l0 p0, .slice a1 l1 p1]) tN ∧ (er = 0 → five tN ∧ tN.ts = t.ts ∧ ∀ n, Tl.live tN.ws n = Tl.live t.ws n))) ∧ Below Y.heap.size Y w') := Lib.hid (fun Y s ev cpu hY hwf =>
      (step_g (HVT.out.below hY) (((HO.out.below (HBX.out _ HB.out))).below hY) s ev cpu hwf).mono fun e w' h => by
        obtain ⟨⟨a0, l0, p0, a1, l1, p1, rfl, hv⟩, hb⟩ := h
        refine ⟨⟨_, _, _, _, _, _, _, _, rfl, Lib.hid ⟨hv, fun he => ?_⟩⟩, hb⟩
        obtain ⟨f1, f2, f3, f4⟩ := Tl.st_facts he
        exact ⟨⟨f1, f2.trans H5T.out.2⟩, f3.trans HTS.out, fun n => (f4 n).trans (HLV.out n)⟩)
    have HGS : Hid (∀ X, Below wr.heap.size wr X → X.cell? ⟨n6, 0, none⟩ = some (.slice a4 l4 p4) ∧ X.cell? ⟨n6, 1, none⟩ = some (.slice a5 l5 p5) ∧ X.cell? ⟨b, off + j, none⟩ = some (.int .u16 z)) := Lib.hid (fun X hX => by
      have h := (HBT.out.below hX).cells
      exact ⟨h.1, h.2, (hX.cell (p := ⟨b, off + j, none⟩) (World.block_lt_of_cell? wr _ k0)).trans k0⟩)
    have HSA : Hid (∀ Y, Below wr.heap.size wr Y → ∀ o, Below wr.heap.size wr (Y.alloc o)) := Lib.hid (fun Y hY o => hY.alloc hY.size o)
    have HSS : Hid (∀ Y, Below wr.heap.size wr Y → ∀ n u v, wr.heap.size ≤ n → Below wr.heap.size wr ((Y.setCell ⟨n, 0, none⟩ u).setCell ⟨n, 1, none⟩ v)) := Lib.hid (fun Y hY n u v hn => (hY.setCell (p := ⟨n, 0, none⟩) hn u).setCell (p := ⟨n, 1, none⟩) hn v)
    have HT : Hid (∀ X Y, Below wr.heap.size wr X → Below X.heap.size X Y → Below wr.heap.size wr Y) := Lib.hid (fun X Y h1 h2 => bOn h1 h2)
    have hD0 : Below wr.heap.size wr wr.drew := (Below.refl _ _).drew
    have hD1 : Below wr.heap.size wr (wr.alloc (.cells #[.slice none 0 0, .slice none 0 0] 25)).drew := ((Below.refl _ _).alloc (Nat.le_refl _) _).drew
    have hx1 := HGS.out _ hD0
    have hjn : (j : Int) < n := by omega
    have hj0 : (0 : Int) ≤ (j : Int) := by omega
    have hj6 : (j : Int) < 60 := by omega
    have HW := wf16
    have d1 : decide ((j : Int) < (n : Int)) = true := decide_eq_true (by omega)
    have d2 : decide ((j : Int) < 60) = true := decide_eq_true (by omega)
    clear k0 HE0 HN
    go_upto_region 9 with fail
    clear d1 d2
    go_cut [9, 10] (fun p q wx => ∃ (er : Int) (tN : Tl.T) (n2 : Nat) (a2 : Option Addr) (l2 p2 : Nat) (a3 : Option Addr) (l3 p3 : Nat), q = .int .i64 er ∧ p = .pointer (some ⟨n2, 0, none⟩) ∧ Hid (Bt wx n2 (.slice a2 l2 p2) (.slice a3 l3 p3) ∧ Tv wx (.agg #[.slice a2 l2 p2, .slice a3 l3 p3]) tN ∧ (er = 0 → five tN ∧ tN.ts = t.ts ∧ ∀ n, Tl.live tN.ws n = Tl.live t.ws n) ∧ Below wr.heap.size wr wx))
    case first =>
      go_region_held3 (fun X => X.cell? ⟨n6, 0, none⟩ = some (.slice a4 l4 p4) ∧ X.cell? ⟨n6, 1, none⟩ = some (.slice a5 l5 p5) ∧ X.cell? ⟨b, off + j, none⟩ = some (.int .u16 z))
        (first
          | exact hx1
          | (with_reducible exact HGS.out _ (by assumption))
          | (with_reducible exact HGS.out _ (HSA.out _ (by assumption) _))
          | (with_reducible exact HGS.out _ (HSS.out _ (by assumption) _ _ _ (Nat.le_refl _)))
          | go_keep)
        (first
          | (go_at_call 19; with_reducible refine (HEX.out _ _ _ _ hD0 (by first | exact (HW _).1 | exact (HW _).2)).mono ?_; rintro e' w2 ⟨⟨er, tN, a2, l2, p2, a3, l3, p3, rfl, HvN⟩, hb⟩; have hbX := HT.out _ _ hD0 hb)
          | (go_at_call 19; with_reducible refine (HEX.out _ _ _ _ hD1 (by first | exact (HW _).1 | exact (HW _).2)).mono ?_; rintro e' w2 ⟨⟨er, tN, a2, l2, p2, a3, l3, p3, rfl, HvN⟩, hb⟩; have hbX := HT.out _ _ hD1 hb; obtain ⟨q0, q1, q2, q3, q4, q5⟩ := kept_box hb))
      all_goals
        go_wp2_with fail
        go_meet
        first
          | exact ⟨_, _, _, _, _, _, _, _, _, rfl, rfl, Lib.hid ⟨Bt.new _ _ _, HvN.out.1.below ((Below.refl _ _).alloc (Nat.le_refl _) _), HvN.out.2, hbX.alloc hbX.size _⟩⟩
          | exact ⟨_, _, _, _, _, _, _, _, _, rfl, rfl, Lib.hid ⟨q4.set _ _, gives_set HvN.out.1 q4 rfl rfl, HvN.out.2, HSS.out _ hbX _ _ _ (Nat.le_refl _)⟩⟩
    case rest =>
      obtain ⟨er, tN, n9, a6, l6, p6, a7, l7, p7, rfl, rfl, HC⟩ := hcut
      have HB9 := Lib.hid HC.out.1
      have HVN := Lib.hid HC.out.2.1
      have HEN := Lib.hid HC.out.2.2.1
      have HWX := Lib.hid HC.out.2.2.2
      have HB6 := Lib.hid (HBT.out.below HWX.out)
      have HR7 := Lib.hid (HR.out.below HWX.out)
      have HVT2 := Lib.hid (HVT.out.below HWX.out)
      have HBN := Lib.hid (HB.out.trans (HWX.out.mono (Nat.le_of_lt HBT.out.lt)))
      clear HC HEX HGS HSA HSS HT hD0 hD1 hx1 HWX HVA HBX HSZ HBT HVT HR HB HW
      generalize wc = w9 at HB9 HVN HB6 HR7 HVT2 HBN ⊢
      by_cases he : er = 0
      · subst he
        have HEN2 := Lib.hid (HEN.out rfl)
        obtain ⟨y0, y1⟩ := HB9.out.cells
        obtain ⟨x0, x1⟩ := HB6.out.cells
        have xf0 := HB6.out.free 0
        have xf1 := HB6.out.free 1
        have HN1 : Hid (Bv ((w9.setCell ⟨n6, 0, none⟩ (.slice a6 l6 p6)).setCell ⟨n6, 1, none⟩ (.slice a7 l7 p7)) n6 tN) := Lib.hid ⟨_, _, _, _, _, _, HB6.out.set _ _, gives_set HVN.out HB6.out rfl rfl⟩
        have HN2 := Lib.hid ((HR7.out.other (p := ⟨n6, 0, none⟩) (v := .slice a6 l6 p6) (show n6 + 1 ≠ n6 by omega)).other (p := ⟨n6, 1, none⟩) (v := .slice a7 l7 p7) (show n6 + 1 ≠ n6 by omega))
        have HN3 := Lib.hid ((HBN.out.setCell (p := ⟨n6, 0, none⟩) (Nat.le_refl _) (.slice a6 l6 p6)).setCell (p := ⟨n6, 1, none⟩) (Nat.le_refl _) (.slice a7 l7 p7))
        clear HB9 HVN HB6 HR7 HVT2 HBN HEN H5T HTS HLV
        go_wp2
        exact ⟨⟨j + 1, tN, by omega, by omega, by go_num, Lib.hid ⟨HN1.out, HN2.out, HN3.out, HEN2.out⟩⟩, by simp [intOf]; omega⟩
      · have e1 : (er == 0) = false := by simp [he]
        have HN1 : Hid (Bv w9 n6 tt) := Lib.hid ⟨_, _, _, _, _, _, HB6.out, HVT2.out⟩
        clear HB9 HVN HB6 HVT2 HEN he
        go_wp2
        exact ⟨⟨j + 1, tt, by omega, by omega, by go_num, Lib.hid ⟨HN1.out, HR7.out, HBN.out, H5T.out, HTS.out, HLV.out⟩⟩, by simp [intOf]; omega⟩

theorem met (os : Os) : laidMet Tryd.prog Rows.tableKeptRow.laid ((laidWorld os).forCall (fun _ _ => 0) ⟨#[], #[.slice none 0 0, .slice none 0 0], []⟩).memory := laidMet_of_run' 8 (by kernel_rfl) (by kernel_rfl)
theorem reads (os : Os) {H : Type} (enc : TypeId × Value → H) : ∃ ps, DataW.whole enc Tryd.prog ((laidWorld os).forCall (fun _ _ => 0) ⟨#[], #[.slice none 0 0, .slice none 0 0], []⟩).memory Tryd.f8.params.toList Rows.tableKeptSpec.vars false #[Value.slice none 0 0, Value.slice none 0 0].toList 8 = some ([.nil, .nil], [], ps) := ⟨[], by kernel_rfl⟩
set_option maxRecDepth 100000 in
theorem lifted (os : Os) (started : os.Started) (H : Type) (enc : TypeId × Value → H) (F : Stop.Interp) :
    ReturnsInHanded {} Tryd.checked os 8 .any ((OpenSpec.ofChange Rows.tableKeptSpec).preRow enc Tryd.prog Tryd.f8 Rows.tableKeptRow.domain false Rows.tableKeptRow.laid) (((OpenSpec.ofChange Rows.tableKeptSpec).at F).post enc Tryd.prog Tryd.f8 false true false false) := by
  obtain ⟨ps, hx⟩ := reads os enc
  refine returnsInHanded_of_row (C := Tryd.checked) (s := OpenSpec.ofChange Rows.tableKeptSpec) own started (by kernel_rfl) Tryd.func8 (witness_row_at (enc := enc) (C := Tryd.checked) false (laidWorld os) #[.slice none 0 0, .slice none 0 0] rfl (by kernel_rfl) (by kernel_rfl) (by kernel_rfl) (OpenSpec.preRow_of_cond 8 hx (by kernel_rfl) (fun k hk => by cases hk) (by kernel_rfl) (met os))) ?_
  intro W base args ds gs before hval0 hW _ _ _ hL _ _
  have hval : ∀ (j : Nat) t v, Tryd.f8.params[j]? = some t → args[j]? = some v → Value.okWide Tryd.prog W .any base t v := hval0
  have hW' := hW
  obtain ⟨p, q, hA0, hV, rfl, -, -⟩ := hW
  have hA : DataW.TrodAll enc Tryd.prog W 0 (fun _ => true) true Tryd.f8.params.toList args.toList ds p := hA0
  rw [Tryd.params8] at hA hval
  obtain ⟨v0, vs0, d0, ds0, p0, q0, hargs, rfl, rfl, h0, r0⟩ := trodAll_cons hA
  obtain ⟨v1, vs1, d1, ds1, p1, q1, rfl, rfl, rfl, h1, r1⟩ := trodAll_cons r0
  obtain ⟨rfl, rfl, rfl⟩ := trodAll_nil r1
  obtain rfl : args = #[v0, v1] := by cases args; simp_all
  obtain ⟨rfl, rfl⟩ := trodVars_none hV
  obtain ⟨a0, w0⟩ := ints_arg Tryd.underlying38 Tryd.underlying39 (by kernel_rfl) (hval 0 38 v0 rfl rfl) h0
  obtain ⟨a1, w1⟩ := ints_arg Tryd.underlying38 Tryd.underlying39 (by kernel_rfl) (hval 1 38 v1 rfl rfl) h1
  clear hA0 hval0
  refine (walk v0 a0 v1 a1 W w0 w1 (tab_laid hL)).mono fun e W' ⟨he, hb⟩ => ?_
  subst he
  exact ⟨_, rfl, post_law laidOut (by kernel_rfl) rfl (by kernel_rfl) Tryd.underlying4 hW' rfl hb⟩

theorem row : Rows.TableKeptSaid :=
  OpenClaim.holds_of_cond 8 Tryd.f8 rfl rfl rfl rfl rfl rfl rfl ⟨rfl, rfl, rfl, rfl, rfl⟩ rfl rfl rfl rfl rfl (by kernel_rfl) Tryd.func8 (by kernel_rfl)
    (of_decide_eq_true (by kernel_rfl)) (by unfold Func.isWrapper; first | (rw [if_pos (by decide +kernel)]; kernel_rfl) | (rw [if_neg (by decide +kernel)]; exact ⟨rfl, rfl⟩))
    (fun os started H enc _ F => by rw [OpenClaim.pre_eq_preRow]; exact lifted os started H enc F)
theorem simple (f : FuncId) (fn : Func) (hf : Tryd.pinned.checked.prog.funcNamed Rows.tableKeptRow.func = some f) (hfn : Tryd.pinned.checked.prog.funcs[f]? = some fn) :
    true = Tryd.pinned.checked.prog.looks [] ∧ ∀ (j : Nat) t, fn.params[j]? = some t → Tryd.pinned.checked.prog.wantsStandIn t = false := by
  have e1 : Tryd.prog.funcNamed Rows.tableKeptRow.func = some 8 := by kernel_rfl
  cases e1.symm.trans hf
  cases Tryd.func8.symm.trans hfn
  exact ⟨by kernel_rfl, no_stand (P := Tryd.prog) (by kernel_rfl)⟩
/-- **TableKept**: the given statement, a tied card. -/
theorem proved : Rows.TableKeptCardSaid :=
  Claim7.holds_tied_plain_at .later [] _ _ _ _ row (fun _ h => by cases h) (by kernel_rfl) (fun _ h => by cases h) tableKept_row_tie rfl ⟨rfl, rfl⟩ (by kernel_rfl) rfl simple (by kernel_rfl)
end Go.Proofs.YtjikabalpejmlaaDoor.tableKept
