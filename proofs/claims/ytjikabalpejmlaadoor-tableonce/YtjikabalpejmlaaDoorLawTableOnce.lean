/-
  TableOnce returns true at every input, and turns nothing that was there: no handle is told twice; each is there from when it is told to when it has gone, and stale from then on. The tables of math/bits and of places are tied to the program's text.
-/
import Derived.Test.YtjikabalpejmlaaDoorTlX
import Derived.Test.YtjikabalpejmlaaDoorTlMz
import Derived.Test.YtjikabalpejmlaaDoorTlOm
import Derived.Deep.RegionHeld3
import Derived.Deep.CutRange
import Derived.Test.YtjikabalpejmlaaDoorPost
namespace Go.Proofs.YtjikabalpejmlaaDoor.tableOnce
open Go.ChangeShapes Go.WideShapes Go.ChangeAt Go.RowKit Go.Deep Pk Lf
open Mk (V)

def t4 : Tl.T := ⟨[0, 0, 0, 0], [Tl.k0, Tl.k0, Tl.k0, Tl.k0]⟩
theorem t4_new : newT 4 = t4 ∧ newE 4 = 0 := by decide +kernel

theorem sep_move {w : World} {u u' : Value} {a b : Option Addr} (h : Sep u a b) (hloc : u'.ownBlock = u.ownBlock ∨ ∃ r, u'.ownBlock = some r ∧ w.heap.size ≤ r) (hlt : (∀ z, a = some z → z.block < w.heap.size) ∧ (∀ z, b = some z → z.block < w.heap.size)) : Sep u' a b := by
  rcases hloc with e | ⟨r, e, hr⟩
  · intro r hr; rw [e] at hr; exact h r hr
  · intro r' hr'
    rw [e] at hr'; cases hr'
    exact ⟨fun z hz => by have := hlt.1 z hz; omega, fun z hz => by have := hlt.2 z hz; omega⟩

set_option maxRecDepth 100000 in
set_option maxHeartbeats 16000000 in
theorem walk (vl : Value) (zs : List Int) (W : World) (hl : Ints .u8 W vl zs) (hO : Ok W) :
    Calls Tryd.prog 7 #[vl] W fun e w' => e = .returned (.bool true) ∧ Below W.heap.size W w' := by
  have HL0 := Lib.hid hl
  have HWF := Lib.hid hl.wf
  obtain ⟨ae, cape, rfl, hm, -, -⟩ := hl
  obtain ⟨n, hn⟩ : ∃ n, zs.length = n := ⟨_, rfl⟩
  have HN := Lib.hid hn
  rw [hn] at HL0 hm ⊢
  clear hn
  have hq1 : n ≤ 9223372036854775807 := by unfold maxLen at hm; omega
  clear hm
  have HO := Lib.hid hO
  clear hO
  go_enter Tryd.func7, Tryd.ntmps7
  go_wp2_with fail
  refine (awake_any W HO.out).mono ?_
  rintro e' w1 ⟨rfl, hb1⟩
  have HB1 := Lib.hid hb1
  clear hb1
  go_wp2_with fail
  refine (new_g 4 w1).mono ?_
  rw [t4_new.1, t4_new.2]
  rintro e' w2 ⟨⟨a2, l2, p2, a3, l3, p3, rfl, hv⟩, hb⟩
  obtain ⟨rfl, rfl⟩ : l2 = 4 ∧ l3 = 4 := by
    obtain ⟨c0, c1, e, hI, hK⟩ := hv
    simp only [Value.agg.injEq, Array.mk.injEq, List.cons.injEq, and_true] at e
    obtain ⟨rfl, rfl⟩ := e
    obtain ⟨_, _, e, -⟩ := hI
    obtain ⟨_, _, e', -⟩ := hK
    cases e
    cases e'
    exact ⟨rfl, rfl⟩
  have HB := Lib.hid (bOn HB1.out hb)
  have HAL := Lib.hid ((Below.refl w2.heap.size w2).alloc (Nat.le_refl _) (.cells #[.slice a2 4 p2, .slice a3 4 p3] 25))
  have HS0 : Hid (Ots (w2.alloc (.cells #[.slice a2 4 p2, .slice a3 4 p3] 25)) w2.heap.size (.slice none 0 0) (.slice none 0 0) a2 p2 a3 p3 t4 [] []) := Lib.hid ⟨Bt.new w2 _ _, hv.below HAL.out, OwnE.nil _ _ _, OwnE.nil _ _ _, fun r hr => by simp [Value.ownBlock] at hr, fun r hr => by simp [Value.ownBlock] at hr, .inl rfl⟩
  clear hb hv HB1
  go_upto_region 8 with fail
  have HSZ : Hid (W.heap.size ≤ w2.heap.size) := Lib.hid HB.out.size
  generalize w2.heap.size = n4 at HAL HS0 HSZ ⊢
  generalize w2.alloc _ = w3 at HAL HS0 ⊢
  have HBX : Hid (∀ X, Below n4 w2 X → Below W.heap.size W X) := Lib.hid (fun X hX => HB.out.trans (hX.mono HSZ.out))
  clear HB HSZ
  go_wp2
  go_loopw [6, 7, 8, 9, 10, 11, 12, 13, 14, 15, 16, 17, 18] (fun u v i _ _ _ _ _ _ _ _ _ _ wr => ∃ (j : Nat) (a : Option Addr) (p : Nat) (b : Option Addr) (q : Nat) (t : Tl.T) (l gl : List Tl.Hd), j ≤ n ∧ j ≤ 60 ∧ l.length ≤ j ∧ i = .int .i64 j ∧ Hid (Ots wr n4 u v a p b q t l gl ∧ Tl.Once t l gl.length ∧ ((∀ x ∈ l, encH.ok x) ∧ (∀ x ∈ gl, encH.ok x)) ∧ Below n4 w2 wr)) (fun _ _ i _ _ _ _ _ _ _ _ _ _ _ => 60 - (intOf i).toNat)
  case atStart => exact ⟨0, _, _, _, _, t4, [], [], by omega, by omega, by simp, rfl, Lib.hid ⟨HS0.out, Tl.Once.zero, ⟨by simp, by simp⟩, HAL.out⟩⟩
  case round =>
    obtain ⟨j, a, p, b, q, t, l, gl, hj, hj60, hlj, rfl, HJ⟩ := hrel
    clear HS0 HAL
    by_cases hend : j < n ∧ j < 60
    case neg =>
      have HF := Lib.hid (HBX.out _ HJ.out.2.2.2)
      clear HJ
      have hcase : (j < n ∧ j = 60) ∨ j = n := by omega
      rcases hcase with ⟨h60, rfl⟩ | rfl
      all_goals
        go_wp2
        go_ret
        exact ⟨rfl, HF.out⟩
    obtain ⟨hlt, hlt6⟩ := hend
    obtain ⟨au, cu, rfl, hmu⟩ := (HJ.out.1.told.els HJ.out.2.2.1.1).shape
    obtain ⟨av, cv, rfl, hmv⟩ := (HJ.out.1.gone.els HJ.out.2.2.1.2).shape
    rcases HL0.out.parts with ⟨h, -⟩ | ⟨-, -, be, off, cap', hv, hbk, hc⟩
    · have := HN.out; rw [h] at this; simp at this; omega
    simp only [Value.slice.injEq] at hv
    obtain ⟨rfl, -, rfl⟩ := hv
    have k0 := ((HBX.out _ HJ.out.2.2.2).cell (p := ⟨be, off + j, none⟩) hbk).trans (hc j (by rw [HN.out]; exact hlt))
    have hzb := bounds_u8 (HWF.out (zs.getD j 0) (by rw [List.getD_eq_getElem?_getD, List.getElem?_eq_getElem (by rw [HN.out]; exact hlt)]; exact List.getElem_mem _))
    obtain ⟨z, hz⟩ : ∃ z : Nat, zs.getD j 0 = (z : Int) := ⟨(zs.getD j 0).toNat, by omega⟩
    rw [hz] at k0 hzb
    have hz8 : z < 256 := by omega
    clear hz hzb hbk hc hmu hmv
    have hjn : (j : Int) < n := by omega
    go_upto_region 11 with fail
    obtain ⟨nl, hnl⟩ : ∃ k, l.length = k := ⟨_, rfl⟩
    rw [hnl] at HJ ⊢
    go_cut [48] (fun c wx => ∃ cc : Bool, c = .bool cc ∧ Hid (wx = wr ∧ (cc = false → 0 < l.length)))
    case first =>
      by_cases h3 : z % 3 = 0
      · have e3 : ((z : Int) % 3 != 0) = false := by simp; omega
        by_cases h0 : nl = 0
        · have e4 : ((nl : Int) == 0) = true := by simp [h0]
          clear h3
          go_wp2_with fail
          go_meet
          case rel => exact ⟨true, rfl, Lib.hid ⟨rfl, fun h => by cases h⟩⟩
        · have e4 : ((nl : Int) == 0) = false := by simp [h0]
          have hp : 0 < l.length := by omega
          clear h3
          go_wp2_with fail
          go_meet
          case rel => exact ⟨false, rfl, Lib.hid ⟨rfl, fun _ => hp⟩⟩
      · have e3 : ((z : Int) % 3 != 0) = true := by simp; omega
        clear h3
        go_wp2_with fail
        go_meet
        case rel => exact ⟨true, rfl, Lib.hid ⟨rfl, fun h => by cases h⟩⟩
    case rest =>
      obtain ⟨cc, rfl, HE⟩ := hcut
      have hE := HE.out.1.symm
      subst hE
      have HPL := Lib.hid HE.out.2
      clear HE
      go_upto_if 48 with fail
      go_cut [6, 7] (fun u v wx => ∃ (a : Option Addr) (p : Nat) (b : Option Addr) (q : Nat) (t : Tl.T) (l gl : List Tl.Hd), l.length ≤ j + 1 ∧ Hid (Ots wx n4 u v a p b q t l gl ∧ Tl.Once t l gl.length ∧ ((∀ x ∈ l, encH.ok x) ∧ (∀ x ∈ gl, encH.ok x)) ∧ Below n4 w2 wx))
      case first =>
        cases cc with
        | true =>
          clear HPL k0
          obtain ⟨x0, x1⟩ := HJ.out.1.box.cells
          have hOK := (HO.out.below (HBX.out _ HJ.out.2.2.2))
          have HFA : Hid (Tl.crE t 2 0 3 = 0 → (Tl.crH t 2 0 3 ∉ l ∧ Tl.Once (Tl.crT t 2 0 3) (l ++ [Tl.crH t 2 0 3]) gl.length) ∧ encH.ok (Tl.crH t 2 0 3)) := Lib.hid (fun h => ⟨⟨HJ.out.2.1.fresh h, HJ.out.2.1.create h⟩, by
            obtain ⟨i, -, hi, -, hH, -, -, -, -, hG, -⟩ := Tl.cr_facts h
            rw [HJ.out.2.1.four] at hi
            rw [hH, ← hG]
            exact ⟨by unfold Ni; simp; omega, G_ni _⟩⟩)
          have HCR := Lib.hid (create_any' t 2 0 3 (by unfold V; decide) _ wr HJ.out.1.tv hOK.1 hOK.2)
          clear hOK
          unfold TellsC at HCR
          generalize Tl.crT t 2 0 3 = tC at HCR HFA
          generalize Tl.crH t 2 0 3 = hC at HCR HFA
          generalize Tl.crE t 2 0 3 = eC at HCR HFA
          obtain ⟨hs, hg⟩ := hC
          go_wp2_with fail
          refine HCR.out.mono ?_
          rintro e' w4 ⟨⟨v', rfl, hv4, a4, l4, p4, a5, l5, p5, rfl, hf4, hf5⟩, hb⟩
          have HX4 := Lib.hid (bOn ((Below.refl w4.heap.size w4).alloc (Nat.le_refl _) (.cells #[.slice a4 l4 p4, .slice a5 l5 p5] 25)) ((Below.refl (w4.alloc (.cells #[.slice a4 l4 p4, .slice a5 l5 p5] 25)).heap.size _).alloc (Nat.le_refl _) (.cells #[.int .i64 hs, .int .i64 hg] 27)))
          have HW5 := Lib.hid (bOn hb HX4.out)
          have HB5 := Lib.hid (((Bag.nil w4).th hv4 ⟨hs, hg⟩).getH (n := w4.heap.size + 1) (x := ⟨hs, hg⟩) (by simp))
          have HT5 : Hid (Bt ((w4.alloc (.cells #[.slice a4 l4 p4, .slice a5 l5 p5] 25)).alloc (.cells #[.int .i64 hs, .int .i64 hg] 27)) w4.heap.size (.slice a4 l4 p4) (.slice a5 l5 p5) ∧ Tv ((w4.alloc (.cells #[.slice a4 l4 p4, .slice a5 l5 p5] 25)).alloc (.cells #[.int .i64 hs, .int .i64 hg] 27)) (.agg #[.slice a4 l4 p4, .slice a5 l5 p5]) tC) := Lib.hid ⟨(Bt.new w4 _ _).below ((Below.refl _ _).alloc (Nat.le_refl _) _), hv4.below HX4.out⟩
          have HSE : Hid ((∀ r, (Value.slice au nl cu).ownBlock = some r → r < w4.heap.size) ∧ Sep (.slice au nl cu) a4 a5 ∧ Sep (.slice av gl.length cv) a4 a5) := Lib.hid ⟨fun r hr => Nat.lt_of_lt_of_le (World.ownsRow.lt HJ.out.1.told r hr).2 hb.size, Sep.far (w := wr) HJ.out.1.told hf4 hf5, Sep.far (w := wr) HJ.out.1.gone hf4 hf5⟩
          have HOS := Lib.hid (HJ.out.1.below HW5.out)
          have HBN := Lib.hid (HJ.out.2.2.2.trans (HW5.out.mono (Nat.le_of_lt HJ.out.1.box.lt)))
          clear hb hv4 hf4 hf5 HX4 HCR x0 x1
          go_upto_region 13 with fail
          generalize w4.heap.size = n9 at HB5 HT5 HSE ⊢
          generalize (w4.alloc _).alloc _ = w5 at HB5 HT5 HW5 HOS HBN ⊢
          by_cases he : eC = 0
          case neg =>
            have e1 : (eC == 0) = false := by simp [he]
            clear HB5 HT5 HSE HFA he
            go_wp2_with fail
            go_meet
            case rel => exact ⟨_, _, _, _, t, l, gl, by omega, Lib.hid ⟨HOS.out, HJ.out.2.1, HJ.out.2.2.1, HBN.out⟩⟩
          subst he
          have HFB := Lib.hid (HFA.out rfl)
          clear HFA
          have hf44 : l4 = 4 ∧ l5 = 4 := by
            obtain ⟨c0, c1, e, hI, hK⟩ := HT5.out.2
            simp only [Value.agg.injEq, Array.mk.injEq, List.cons.injEq, and_true] at e
            obtain ⟨rfl, rfl⟩ := e
            obtain ⟨_, _, e, -⟩ := hI
            obtain ⟨_, _, e', -⟩ := hK
            cases e
            cases e'
            exact ⟨HFB.out.1.2.four, HFB.out.1.2.rt.2.1.trans HFB.out.1.2.four⟩
          obtain ⟨rfl, rfl⟩ := hf44
          clear HW5
          go_upto_region 14 with fail
          go_wp2
          go_loopw [12] (fun i wr => ∃ k : Nat, k ≤ nl ∧ i = .int .i64 k ∧ Hid (Below w5.heap.size w5 wr)) (fun i _ => nl - (intOf i).toNat)
          case atStart => exact ⟨0, by omega, rfl, Lib.hid (Below.refl _ _)⟩
          case round =>
            obtain ⟨k, hk, rfl, HJ2⟩ := hrel
            by_cases hkn : k < nl
            case pos =>
              rcases Hs.parts (HOS.out.told.els HJ.out.2.2.1.1) with ⟨h, -⟩ | ⟨-, bu, ou, cap', hv, -, hbk, hc⟩
              · rw [h] at hnl; simp at hnl; omega
              simp only [Value.slice.injEq] at hv
              obtain ⟨rfl, -, rfl⟩ := hv
              obtain ⟨z0, z1⟩ := hc k (by omega)
              have z0 := (HJ2.out.cell (p := ⟨bu, ou + k * 2, none⟩) hbk).trans z0
              have z1 := (HJ2.out.cell (p := ⟨bu, ou + k * 2 + 1, none⟩) hbk).trans z1
              obtain ⟨y0, y1⟩ := (HB5.out.below HJ2.out).cells
              have hne : l.getD k Tl.h0 ≠ ⟨hs, hg⟩ := fun e => HFB.out.1.1 (by
                rw [← e, List.getD_eq_getElem?_getD, List.getElem?_eq_getElem (by omega)]
                exact List.getElem_mem _)
              have e1 : ∀ w, (binOp BinOp.eql 27 (.agg #[.int .i64 (l.getD k Tl.h0).slot, .int .i64 (l.getD k Tl.h0).gen]) (.agg #[.int .i64 hs, .int .i64 hg])).run Tryd.prog w = .ok (.bool false) w := fun w => by
                have := eqH (l.getD k Tl.h0) ⟨hs, hg⟩ w
                rwa [decide_eq_false hne] at this
              clear hne hbk hc
              generalize l.getD k Tl.h0 = x at z0 z1 e1
              have g0 : ∀ n, (wr.drewN n).cell? ⟨bu, ou + k * 2, none⟩ = _ := fun n => z0
              have g1 : ∀ n, (wr.drewN n).cell? ⟨bu, ou + k * 2 + 1, none⟩ = _ := fun n => z1
              have g3 : ∀ n, (wr.drewN n).cell? ⟨n9 + 1, 0, none⟩ = _ := fun n => y0
              have g4 : ∀ n, (wr.drewN n).cell? ⟨n9 + 1, 1, none⟩ = _ := fun n => y1
              have hki : (k : Int) < nl := by omega
              go_upto_region 17 with fail
              go_quiet (fail)
              go_wp2
              exact ⟨⟨k + 1, by omega, by go_num, Lib.hid (below_drewN HJ2.out _)⟩, by simp [intOf]; omega⟩
            obtain rfl : k = nl := by omega
            have HO6 := Lib.hid (HOS.out.below HJ2.out)
            have HB6 := Lib.hid (HB5.out.below HJ2.out)
            have HT6 := Lib.hid (show _ ∧ _ from ⟨HT5.out.1.below HJ2.out, HT5.out.2.below HJ2.out⟩)
            have HBN6 := Lib.hid (HBN.out.trans (HJ2.out.mono (Nat.le_of_lt HOS.out.box.lt)))
            have HBA := Lib.hid (Bh.new wr ⟨hs, hg⟩)
            clear HOS HB5 HT5 HBN HJ2
            obtain ⟨y0, y1⟩ := HB6.out.cells
            have hcells : ∀ j, j < encH.n → (wr.alloc (.cells #[.int .i64 hs, .int .i64 hg] 27)).cell? ⟨wr.heap.size, j, none⟩ = (encH.f ⟨hs, hg⟩)[j]? := fun j hj => by
              obtain ⟨c0, c1⟩ := HBA.out.cells
              rcases (show j = 0 ∨ j = 1 by have : j < 2 := hj; omega) with rfl | rfl
              · exact c0
              · exact c1
            have hroom2 : l.length + 1 ≤ 1048576 := by omega
            have hbase : n4 + 1 ≤ (wr.alloc (.cells #[.int .i64 hs, .int .i64 hg] 27)).heap.size := by
              have := HO6.out.box.lt
              rw [World.size_alloc]; omega
            go_upto_region 20 with (at_builtin; go_loud (refine wpList_append_el encH rfl (.tmp 69) (.tmp 71) 55 rfl (n4 + 1) 27 Tryd.underlying55 info_handle rfl (by decide) (.slice au k cu) rfl l (HO6.out.told.alloc _) ⟨hs, hg⟩ wr.heap.size 1 rfl hcells hroom2 hbase ?_); intro v' w7 hown hgrow hloc)
            have hg7 := (World.grownBy_alloc wr _ _).trans hgrow
            have hl7 : v'.ownBlock = (Value.slice au k cu).ownBlock ∨ ∃ r, v'.ownBlock = some r ∧ wr.heap.size ≤ r := by
              rcases hloc with e | ⟨r, e, h⟩
              · exact .inl e
              · rw [World.size_alloc] at h
                exact .inr ⟨r, e, by omega⟩
            have HO7 := Lib.hid (HO6.out.tell hown hg7 hl7)
            have HT7 := Lib.hid (show _ ∧ _ from ⟨box_grown HT6.out.1 hg7 (fun e => by have := HSE.out.1 _ e; omega), HT6.out.2.grown hg7 HSE.out.2.1⟩)
            have HSV := Lib.hid (sep_move HSE.out.2.1 hl7 (HT6.out.2.lt (by decide) (by decide)))
            have HBN7 := Lib.hid (HBN6.out.trans (((Below.refl (n4 + 1) wr).grown hg7 (by have := HO6.out.box.lt; omega) HO6.out.told.lt).mono (by omega)))
            clear hown hgrow hloc hg7 hl7 HO6 HT6 HBN6 HBA hcells hroom2 hbase y0 y1 HB6
            obtain ⟨x0, x1⟩ := HT7.out.1.cells
            obtain ⟨b0, b1⟩ := HO7.out.box.cells
            have bf0 := HO7.out.box.free 0
            have bf1 := HO7.out.box.free 1
            have HO8 := Lib.hid (HO7.out.store HT7.out.2 HSV.out HSE.out.2.2)
            have HBN8 := Lib.hid ((HBN7.out.setCell (p := ⟨n4, 0, none⟩) (Nat.le_refl _) (.slice a4 4 p4)).setCell (p := ⟨n4, 1, none⟩) (Nat.le_refl _) (.slice a5 4 p5))
            clear HO7 HT7 HBN7 HSE HSV
            go_wp2_with fail
            go_meet
            case rel => exact ⟨_, _, _, _, tC, l ++ [⟨hs, hg⟩], gl, by simp; omega, Lib.hid ⟨HO8.out, HFB.out.1.2, ⟨fun x hx => by
              rcases List.mem_append.1 hx with hx | hx
              · exact HJ.out.2.2.1.1 x hx
              · simp only [List.mem_singleton] at hx; subst hx; exact HFB.out.2, HJ.out.2.2.1.2⟩, HBN8.out⟩⟩
        | false =>
          have hp : 0 < nl := by have := HPL.out rfl; omega
          clear HPL
          obtain ⟨kk, hkk⟩ : ∃ kk, z / 3 % nl = kk := ⟨_, rfl⟩
          have hkl : kk < nl := by rw [← hkk]; exact Nat.mod_lt _ hp
          have hmod : (z : Int) / 3 % (nl : Int) = (kk : Int) := by rw [← hkk, Int.natCast_emod, Int.natCast_ediv]; rfl
          have hmodt : Int.tmod ((z : Int) / 3) (nl : Int) = (kk : Int) := by rw [Int.tmod_eq_emod_of_nonneg (by omega)]; exact hmod
          clear hkk
          rcases Hs.parts (HJ.out.1.told.els HJ.out.2.2.1.1) with ⟨h, -⟩ | ⟨-, bu, ou, cap', hv, -, hbk, hc⟩
          · rw [h] at hnl; simp at hnl; omega
          simp only [Value.slice.injEq] at hv
          obtain ⟨rfl, -, rfl⟩ := hv
          obtain ⟨z0, z1⟩ := hc kk (by omega)
          clear hbk hc
          have hxm : l.getD kk Tl.h0 ∈ l := by
            rw [List.getD_eq_getElem?_getD, List.getElem?_eq_getElem (by omega)]
            exact List.getElem_mem _
          generalize l.getD kk Tl.h0 = x at z0 z1 hxm
          obtain ⟨xs, xg⟩ := x
          have hki0 : (0 : Int) ≤ (kk : Int) := by omega
          have hki : (kk : Int) < nl := by omega
          have hn0 : ((nl : Int) == 0) = false := by simp; omega
          have HFA : Hid ((Tl.exE t xs xg = 0 → Tl.Once (Tl.exT t xs xg) l (gl.length + 1)) ∧ encH.ok ⟨xs, xg⟩ ∧ gl.length ≤ l.length) := Lib.hid ⟨fun h => HJ.out.2.1.exit hxm h, HJ.out.2.2.1.1 _ hxm, by have := HJ.out.2.1.lv; omega⟩
          have HA := Lib.hid ((Below.refl wr.heap.size wr).alloc (Nat.le_refl _) (.cells #[.int .i64 xs, .int .i64 xg] 27))
          have HBA := Lib.hid (Bh.new wr ⟨xs, xg⟩)
          have HOS := Lib.hid (HJ.out.1.below HA.out)
          have HBN := Lib.hid (HJ.out.2.2.2.trans (HA.out.mono (Nat.le_of_lt HJ.out.1.box.lt)))
          clear hxm
          go_upto_region 22 with fail
          clear z0 z1 hki0 hki hn0 hmod hmodt HA
          generalize wr.heap.size = n9 at HBA ⊢
          generalize wr.alloc _ = w4 at HBA HOS HBN ⊢
          obtain ⟨x0, x1⟩ := HOS.out.box.cells
          obtain ⟨y0, y1⟩ := HBA.out.cells
          have HCR := Lib.hid (exit_any' t xs xg _ w4 HOS.out.tv (HO.out.below (HBX.out _ HBN.out)).1)
          unfold Tells at HCR
          generalize Tl.exT t xs xg = tC at HCR HFA
          generalize Tl.exE t xs xg = eC at HCR HFA
          go_wp2_with fail
          refine HCR.out.mono ?_
          rintro e' w5 ⟨⟨v', rfl, hv5, a4, l4, p4, a5, l5, p5, rfl, hf4, hf5⟩, hb⟩
          have HX4 := Lib.hid ((Below.refl w5.heap.size w5).alloc (Nat.le_refl _) (.cells #[.slice a4 l4 p4, .slice a5 l5 p5] 25))
          have HW5 := Lib.hid (bOn hb HX4.out)
          have HT5 : Hid (Bt (w5.alloc (.cells #[.slice a4 l4 p4, .slice a5 l5 p5] 25)) w5.heap.size (.slice a4 l4 p4) (.slice a5 l5 p5) ∧ Tv (w5.alloc (.cells #[.slice a4 l4 p4, .slice a5 l5 p5] 25)) (.agg #[.slice a4 l4 p4, .slice a5 l5 p5]) tC) := Lib.hid ⟨Bt.new w5 _ _, hv5.below HX4.out⟩
          have HSE : Hid ((∀ r, (Value.slice av gl.length cv).ownBlock = some r → r < w5.heap.size) ∧ Sep (.slice (some ⟨bu, ou, none⟩) nl cu) a4 a5 ∧ Sep (.slice av gl.length cv) a4 a5) := Lib.hid ⟨fun r hr => Nat.lt_of_lt_of_le (World.ownsRow.lt HOS.out.gone r hr).2 hb.size, Sep.far (w := w4) HOS.out.told hf4 hf5, Sep.far (w := w4) HOS.out.gone hf4 hf5⟩
          have HO6 := Lib.hid (HOS.out.below HW5.out)
          have HB6 := Lib.hid (HBA.out.below HW5.out)
          have HBN6 := Lib.hid (HBN.out.trans (HW5.out.mono (Nat.le_of_lt HOS.out.box.lt)))
          clear hb hv5 hf4 hf5 HX4 HCR x0 x1 y0 y1 HBA HBN HOS HW5
          go_upto_region 23 with fail
          generalize w5.heap.size = n10 at HT5 HSE ⊢
          generalize w5.alloc _ = w6 at HT5 HO6 HB6 HBN6 ⊢
          by_cases he : eC = 0
          case neg =>
            have e1 : (eC == 0) = false := by simp [he]
            clear HT5 HSE HFA he HB6
            go_wp2_with fail
            go_meet
            case rel => exact ⟨_, _, _, _, t, l, gl, by omega, Lib.hid ⟨HO6.out, HJ.out.2.1, HJ.out.2.2.1, HBN6.out⟩⟩
          subst he
          have HFB := Lib.hid (HFA.out.1 rfl)
          have hgl : gl.length ≤ l.length := HFA.out.2.2
          have HOK := Lib.hid HFA.out.2.1
          clear HFA
          have hf44 : l4 = 4 ∧ l5 = 4 := by
            obtain ⟨c0, c1, e, hI, hK⟩ := HT5.out.2
            simp only [Value.agg.injEq, Array.mk.injEq, List.cons.injEq, and_true] at e
            obtain ⟨rfl, rfl⟩ := e
            obtain ⟨_, _, e, -⟩ := hI
            obtain ⟨_, _, e', -⟩ := hK
            cases e
            cases e'
            exact ⟨HFB.out.four, HFB.out.rt.2.1.trans HFB.out.four⟩
          obtain ⟨rfl, rfl⟩ := hf44
          have HBA := Lib.hid (Bh.new w6 ⟨xs, xg⟩)
          obtain ⟨y0, y1⟩ := HB6.out.cells
          have hcells : ∀ j, j < encH.n → (w6.alloc (.cells #[.int .i64 xs, .int .i64 xg] 27)).cell? ⟨w6.heap.size, j, none⟩ = (encH.f ⟨xs, xg⟩)[j]? := fun j hj => by
            obtain ⟨c0, c1⟩ := HBA.out.cells
            rcases (show j = 0 ∨ j = 1 by have : j < 2 := hj; omega) with rfl | rfl
            · exact c0
            · exact c1
          have hroom2 : gl.length + 1 ≤ 1048576 := by omega
          have hbase : n4 + 1 ≤ (w6.alloc (.cells #[.int .i64 xs, .int .i64 xg] 27)).heap.size := by
            have := HO6.out.box.lt
            rw [World.size_alloc]; omega
          go_upto_region 25 with (at_builtin; go_loud (refine wpList_append_el encH rfl (.tmp 94) (.tmp 96) 55 rfl (n4 + 1) 27 Tryd.underlying55 info_handle rfl (by decide) (.slice av gl.length cv) rfl gl (HO6.out.gone.alloc _) ⟨xs, xg⟩ w6.heap.size 1 rfl hcells hroom2 hbase ?_); intro v' w7 hown hgrow hloc)
          have hg7 := (World.grownBy_alloc w6 _ _).trans hgrow
          have hl7 : v'.ownBlock = (Value.slice av gl.length cv).ownBlock ∨ ∃ r, v'.ownBlock = some r ∧ w6.heap.size ≤ r := by
            rcases hloc with e | ⟨r, e, h⟩
            · exact .inl e
            · rw [World.size_alloc] at h
              exact .inr ⟨r, e, by omega⟩
          have HO7 := Lib.hid (HO6.out.goes hown hg7 hl7)
          have HT7 := Lib.hid (show _ ∧ _ from ⟨box_grown HT5.out.1 hg7 (fun e => by have := HSE.out.1 _ e; omega), HT5.out.2.grown hg7 HSE.out.2.2⟩)
          have HSV := Lib.hid (sep_move HSE.out.2.2 hl7 (HT5.out.2.lt (by decide) (by decide)))
          have HBN7 := Lib.hid (HBN6.out.trans (((Below.refl (n4 + 1) w6).grown hg7 (by have := HO6.out.box.lt; omega) HO6.out.gone.lt).mono (by omega)))
          clear hown hgrow hloc hg7 hl7 HO6 HT5 HBN6 HBA hcells hroom2 hbase y0 y1 HB6
          obtain ⟨x0, x1⟩ := HT7.out.1.cells
          obtain ⟨b0, b1⟩ := HO7.out.box.cells
          have bf0 := HO7.out.box.free 0
          have bf1 := HO7.out.box.free 1
          have HO8 := Lib.hid (HO7.out.store HT7.out.2 HSE.out.2.1 HSV.out)
          have HBN8 := Lib.hid ((HBN7.out.setCell (p := ⟨n4, 0, none⟩) (Nat.le_refl _) (.slice a4 4 p4)).setCell (p := ⟨n4, 1, none⟩) (Nat.le_refl _) (.slice a5 4 p5))
          clear HO7 HT7 HBN7 HSE HSV
          go_wp2_with fail
          go_meet
          case rel => exact ⟨_, _, _, _, tC, l, gl ++ [⟨xs, xg⟩], by omega, Lib.hid ⟨HO8.out, by rw [List.length_append]; exact HFB.out, ⟨HJ.out.2.2.1.1, fun x hx => by
            rcases List.mem_append.1 hx with hx | hx
            · exact HJ.out.2.2.1.2 x hx
            · simp only [List.mem_singleton] at hx; subst hx; exact HOK.out⟩, HBN8.out⟩⟩
      case rest =>
        clear HJ
        try clear HPL
        obtain ⟨a, p, b, q, t, l, gl, hlj, HJ⟩ := hcut
        obtain ⟨au, cu, rfl, -⟩ := (HJ.out.1.told.els HJ.out.2.2.1.1).shape
        obtain ⟨av, cv, rfl, -⟩ := (HJ.out.1.gone.els HJ.out.2.2.1.2).shape
        clear k0
        have HOK := Lib.hid (HO.out.below (HBX.out _ HJ.out.2.2.2))
        have HST : Hid (l.countP (Tl.old t) = gl.length) := Lib.hid HJ.out.2.1.st
        have HLV : Hid ((Tl.live t.ws 4).length + gl.length = l.length) := Lib.hid HJ.out.2.1.lv
        have HEL : Hid (∀ k, k < l.length → ∃ bu ou, au = some ⟨bu, ou, none⟩ ∧ ∀ X, Below wc.heap.size wc X → X.cell? ⟨bu, ou + k * 2, none⟩ = some (.int .i64 (l.getD k Tl.h0).slot) ∧ X.cell? ⟨bu, ou + k * 2 + 1, none⟩ = some (.int .i64 (l.getD k Tl.h0).gen)) := Lib.hid (fun k hk => by
          rcases Hs.parts (HJ.out.1.told.els HJ.out.2.2.1.1) with ⟨h, -⟩ | ⟨-, bu, ou, cap', hv, -, hbk, hc⟩
          · rw [h] at hk; simp at hk
          simp only [Value.slice.injEq] at hv
          obtain ⟨z0, z1⟩ := hc k hk
          exact ⟨bu, ou, hv.1, fun X hX => ⟨(hX.cell (p := ⟨bu, ou + k * 2, none⟩) hbk).trans z0, (hX.cell (p := ⟨bu, ou + k * 2 + 1, none⟩) hbk).trans z1⟩⟩)
        have HGB : Hid (∀ X, Below wc.heap.size wc X → X.cell? ⟨n4, 0, none⟩ = some (.slice a 4 p) ∧ X.cell? ⟨n4, 1, none⟩ = some (.slice b 4 q)) := Lib.hid (fun X hX => (HJ.out.1.box.below hX).cells)
        have HT : Hid (∀ X Y, Below wc.heap.size wc X → Below X.heap.size X Y → Below wc.heap.size wc Y) := Lib.hid (fun X Y h1 h2 => bOn h1 h2)
        have HCK : Hid (∀ k, k < l.length → ∀ X, Below wc.heap.size wc X → Calls Tryd.prog 22 #[.agg #[.slice a 4 p, .slice b 4 q], .agg #[.int .i64 (l.getD k Tl.h0).slot, .int .i64 (l.getD k Tl.h0).gen]] X fun e w' => e = .returned (.int .i64 (if Tl.old t (l.getD k Tl.h0) = true then 6 else 0)) ∧ Below X.heap.size X w') := Lib.hid (fun k hk X hX => by
          have hm : l.getD k Tl.h0 ∈ l := by
            rw [List.getD_eq_getElem?_getD, List.getElem?_eq_getElem hk]
            exact List.getElem_mem _
          rw [← HJ.out.2.1.chk hm]
          exact check_any t _ _ _ X (HJ.out.1.tv.below hX) (HOK.out.below hX).1)
        have HLI : Hid (∀ X, Below wc.heap.size wc X → Calls Tryd.prog 23 #[.agg #[.slice a 4 p, .slice b 4 q]] X fun e w' => (∃ al cl, e = .returned (.slice al (l.length - gl.length) cl)) ∧ Below X.heap.size X w') := Lib.hid (fun X hX =>
          (live_any t _ X (HJ.out.1.tv.below hX) (HOK.out.below hX).1 (by rw [HJ.out.2.1.four]; decide)).mono fun e w' h => by
            obtain ⟨⟨vs, rfl, hvs⟩, hb⟩ := h
            rw [HJ.out.2.1.four] at hvs
            obtain ⟨al, cl, rfl, -⟩ := Els.shape hvs
            have : (Tl.live t.ws 4).length = l.length - gl.length := by have := HLV.out; omega
            rw [this]
            exact ⟨⟨al, cl, rfl⟩, hb⟩)
        obtain ⟨nl, hnl⟩ : ∃ k, l.length = k := ⟨_, rfl⟩
        obtain ⟨ng, hng⟩ : ∃ k, gl.length = k := ⟨_, rfl⟩
        have hgn : ng ≤ nl := by have := HLV.out; omega
        have hnlj : nl ≤ j + 1 := by omega
        go_upto_region 26 with fail
        rw [hnl, hng]
        rw [hnl, hng] at HLI HLV HJ
        rw [hng] at HST
        rw [hnl] at HEL HCK
        go_wp2
        go_loopw [16, 17, 18] (fun s i _ wx => ∃ k : Nat, k ≤ nl ∧ i = .int .i64 k ∧ s = .int .i64 ((l.take k).countP (Tl.old t) : Nat) ∧ Hid (Below wc.heap.size wc wx)) (fun _ i _ _ => nl - (intOf i).toNat)
        case atStart => exact ⟨0, by omega, rfl, by simp, Lib.hid (Below.refl _ _)⟩
        case round =>
          obtain ⟨k, hk, rfl, rfl, HJ2⟩ := hrel
          by_cases hkn : k < nl
          case pos =>
            obtain ⟨bu, ou, rfl, hz⟩ := HEL.out k hkn
            have HGS : Hid (∀ X, Below wc.heap.size wc X → X.cell? ⟨n4, 0, none⟩ = some (.slice a 4 p) ∧ X.cell? ⟨n4, 1, none⟩ = some (.slice b 4 q) ∧ X.cell? ⟨bu, ou + k * 2, none⟩ = some (.int .i64 (l.getD k Tl.h0).slot) ∧ X.cell? ⟨bu, ou + k * 2 + 1, none⟩ = some (.int .i64 (l.getD k Tl.h0).gen)) := Lib.hid (fun X hX => ⟨(HGB.out X hX).1, (HGB.out X hX).2, (hz X hX).1, (hz X hX).2⟩)
            have HCX := Lib.hid (HCK.out k hkn)
            have HCT : Hid ((l.take (k + 1)).countP (Tl.old t) = (l.take k).countP (Tl.old t) + if Tl.old t (l.getD k Tl.h0) = true then 1 else 0) := Lib.hid (by
              have hkl : k < l.length := by omega
              rw [List.take_add_one, List.countP_append, List.getD_eq_getElem?_getD, List.getElem?_eq_getElem hkl]
              simp [List.countP_cons])
            have hcn : (l.take k).countP (Tl.old t) ≤ k := Nat.le_trans List.countP_le_length (by rw [List.length_take]; omega)
            clear hz HEL HCK HLI HLV HGB HST
            generalize l.getD k Tl.h0 = x at HGS HCX HCT
            obtain ⟨xs, xg⟩ := x
            generalize Tl.old t ⟨xs, xg⟩ = o at HCX HCT
            generalize hcc : (l.take k).countP (Tl.old t) = cc at HCT hcn ⊢
            clear hcc
            have hki0 : (0 : Int) ≤ (k : Int) := by omega
            have hki : (k : Int) < nl := by omega
            have hD0 : Below wc.heap.size wc wr.drew := HJ2.out.drew
            have hx1 := HGS.out _ hD0
            go_upto_region 30 with fail
            obtain ⟨er, her⟩ : ∃ er : Int, (if o = true then 6 else 0) = er := ⟨_, rfl⟩
            rw [her] at HCX
            go_cut [18] (fun c wx => c = .int .i64 er ∧ Hid (Below wc.heap.size wc wx))
            case first =>
              go_region_held3 (fun X => X.cell? ⟨n4, 0, none⟩ = some (.slice a 4 p) ∧ X.cell? ⟨n4, 1, none⟩ = some (.slice b 4 q) ∧ X.cell? ⟨bu, ou + k * 2, none⟩ = some (.int .i64 xs) ∧ X.cell? ⟨bu, ou + k * 2 + 1, none⟩ = some (.int .i64 xg))
                (first
                  | exact hx1
                  | (with_reducible exact HGS.out _ (by assumption))
                  | go_keep)
                (first
                  | (go_at_call 22; with_reducible refine (HCX.out _ hD0).mono ?_; rintro e' wA ⟨rfl, hbA⟩; have hbA0 := HT.out _ _ hD0 hbA))
              all_goals
                go_wp2_with fail
                go_meet
                exact ⟨rfl, Lib.hid (by assumption)⟩
            case rest =>
              obtain ⟨rfl, HBW⟩ := hcut
              clear hx1 HGS hD0 HJ2 HCX
              cases o
              · rw [if_neg (by decide)] at HCT her
                subst her
                go_wp2
                exact ⟨⟨k + 1, by omega, by go_num, by rw [HCT.out]; simp, HBW⟩, by simp [intOf]; omega⟩
              · rw [if_pos rfl] at HCT her
                subst her
                go_wp2
                exact ⟨⟨k + 1, by omega, by go_num, by rw [HCT.out]; simp, HBW⟩, by simp [intOf]; omega⟩
          obtain rfl : k = nl := by omega
          have hcs : (l.take k).countP (Tl.old t) = ng := by rw [List.take_of_length_le (by omega), HST.out]
          rw [hcs]
          have HOX := Lib.hid (HJ.out.1.below HJ2.out)
          have HON := Lib.hid HJ.out.2.1
          have HKK := Lib.hid HJ.out.2.2.1
          have HBN := Lib.hid (HJ.out.2.2.2.trans (HJ2.out.mono (Nat.le_of_lt HJ.out.1.box.lt)))
          have HLX := Lib.hid (HLI.out wr HJ2.out)
          obtain ⟨x0, x1⟩ := HOX.out.box.cells
          obtain ⟨nd, hnd⟩ : ∃ d : Nat, k - ng = d := ⟨_, rfl⟩
          rw [hnd] at HLX
          have hndi : (nd : Int) = (k : Int) - ng := by omega
          have e1 : ((ng : Int) != ng) = false := by simp
          have e2 : ((nd : Int) != (k : Int) - ng) = false := by rw [hndi]; simp
          clear hcs HLI HCK HEL HGB HST HLV HT HJ HJ2 HOK hnd
          go_upto_region 35 with fail
          go_wp2_with fail
          refine HLX.out.mono ?_
          rintro e' w9 ⟨⟨al, cl, rfl⟩, hb⟩
          have HO9 := Lib.hid (HOX.out.below hb)
          have HB9 := Lib.hid (HBN.out.trans (hb.mono (Nat.le_of_lt HOX.out.box.lt)))
          clear HOX HBN HLX x0 x1 hb
          go_wp2_with fail
          rw [← hng] at HON
          exact ⟨⟨j + 1, _, _, _, _, t, l, gl, by omega, by omega, by omega, by go_num, Lib.hid ⟨HO9.out, HON.out, HKK.out, HB9.out⟩⟩, by simp [intOf]; omega⟩

theorem met (os : Os) : laidMet Tryd.prog Rows.tableOnceRow.laid ((laidWorld os).forCall (fun _ _ => 0) ⟨#[], #[.slice none 0 0], []⟩).memory := laidMet_of_run' 8 (by kernel_rfl) (by kernel_rfl)
theorem reads (os : Os) {H : Type} (enc : TypeId × Value → H) : ∃ ps, DataW.whole enc Tryd.prog ((laidWorld os).forCall (fun _ _ => 0) ⟨#[], #[.slice none 0 0], []⟩).memory Tryd.f7.params.toList Rows.tableOnceSpec.vars false #[Value.slice none 0 0].toList 8 = some ([.nil], [], ps) := ⟨[], by kernel_rfl⟩
set_option maxRecDepth 100000 in
theorem lifted (os : Os) (started : os.Started) (H : Type) (enc : TypeId × Value → H) (F : Stop.Interp) :
    ReturnsInHanded {} Tryd.checked os 7 .any ((OpenSpec.ofChange Rows.tableOnceSpec).preRow enc Tryd.prog Tryd.f7 Rows.tableOnceRow.domain false Rows.tableOnceRow.laid) (((OpenSpec.ofChange Rows.tableOnceSpec).at F).post enc Tryd.prog Tryd.f7 false true false false) := by
  obtain ⟨ps, hx⟩ := reads os enc
  refine returnsInHanded_of_row (C := Tryd.checked) (s := OpenSpec.ofChange Rows.tableOnceSpec) own started (by kernel_rfl) Tryd.func7 (witness_row_at (enc := enc) (C := Tryd.checked) false (laidWorld os) #[.slice none 0 0] rfl (by kernel_rfl) (by kernel_rfl) (by kernel_rfl) (OpenSpec.preRow_of_cond 8 hx (by kernel_rfl) (fun k hk => by cases hk) (by kernel_rfl) (met os))) ?_
  intro W base args ds gs before hval0 hW _ _ _ hL _ _
  have hval : ∀ (j : Nat) t v, Tryd.f7.params[j]? = some t → args[j]? = some v → Value.okWide Tryd.prog W .any base t v := hval0
  have hW' := hW
  obtain ⟨p, q, hA0, hV, rfl, -, -⟩ := hW
  have hA : DataW.TrodAll enc Tryd.prog W 0 (fun _ => true) true Tryd.f7.params.toList args.toList ds p := hA0
  rw [Tryd.params7] at hA hval
  obtain ⟨v0, vs0, d0, ds0, p0, q0, hargs, rfl, rfl, h0, r0⟩ := trodAll_cons hA
  obtain ⟨rfl, rfl, rfl⟩ := trodAll_nil r0
  obtain rfl : args = #[v0] := by cases args; simp_all
  obtain ⟨rfl, rfl⟩ := trodVars_none hV
  obtain ⟨a0, w0⟩ := ints_arg Tryd.underlying54 Tryd.underlying5 (by kernel_rfl) (hval 0 54 v0 rfl rfl) h0
  clear hA0 hval0
  refine (walk v0 a0 W w0 (tab_laid hL)).mono fun e W' ⟨he, hb⟩ => ?_
  subst he
  exact ⟨_, rfl, post_law laidOut (by kernel_rfl) rfl (by kernel_rfl) Tryd.underlying4 hW' rfl hb⟩

theorem row : Rows.TableOnceSaid :=
  OpenClaim.holds_of_cond 7 Tryd.f7 rfl rfl rfl rfl rfl rfl rfl ⟨rfl, rfl, rfl, rfl, rfl⟩ rfl rfl rfl rfl rfl (by kernel_rfl) Tryd.func7 (by kernel_rfl)
    (of_decide_eq_true (by kernel_rfl)) (by unfold Func.isWrapper; first | (rw [if_pos (by decide +kernel)]; kernel_rfl) | (rw [if_neg (by decide +kernel)]; exact ⟨rfl, rfl⟩))
    (fun os started H enc _ F => by rw [OpenClaim.pre_eq_preRow]; exact lifted os started H enc F)
theorem simple (f : FuncId) (fn : Func) (hf : Tryd.pinned.checked.prog.funcNamed Rows.tableOnceRow.func = some f) (hfn : Tryd.pinned.checked.prog.funcs[f]? = some fn) :
    true = Tryd.pinned.checked.prog.looks [] ∧ ∀ (j : Nat) t, fn.params[j]? = some t → Tryd.pinned.checked.prog.wantsStandIn t = false := by
  have e1 : Tryd.prog.funcNamed Rows.tableOnceRow.func = some 7 := by kernel_rfl
  cases e1.symm.trans hf
  cases Tryd.func7.symm.trans hfn
  exact ⟨by kernel_rfl, no_stand (P := Tryd.prog) (by kernel_rfl)⟩
/-- **TableOnce**: the given statement, a tied card. -/
theorem proved : Rows.TableOnceCardSaid :=
  Claim7.holds_tied_plain_at .later [] _ _ _ _ row (fun _ h => by cases h) (by kernel_rfl) (fun _ h => by cases h) tableOnce_row_tie rfl ⟨rfl, rfl⟩ (by kernel_rfl) rfl simple (by kernel_rfl)
end Go.Proofs.YtjikabalpejmlaaDoor.tableOnce
