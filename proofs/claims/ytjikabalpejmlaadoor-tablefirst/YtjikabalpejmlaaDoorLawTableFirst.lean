/-
  TableFirst returns true at every input, and turns nothing that was there: who is created takes the first slot that is free, and may be taken still; the others keep theirs; nobody is created, if there is none. The tables of math/bits and of places are tied to the program's text.
-/
import Derived.Test.YtjikabalpejmlaaDoorTlX
import Derived.Test.YtjikabalpejmlaaDoorTlMz
import Derived.Test.YtjikabalpejmlaaDoorTlPl
import Derived.Deep.RegionHeld3
import Derived.Test.YtjikabalpejmlaaDoorPost
namespace Go.Proofs.YtjikabalpejmlaaDoor.tableFirst
open Go.ChangeShapes Go.WideShapes Go.ChangeAt Go.RowKit Go.Deep Pk Lf
open Mk (V)

set_option maxRecDepth 100000 in
set_option maxHeartbeats 16000000 in
theorem walk (vl : Value) (zs : List Int) (m : Int) (W : World) (hl : Ints .u16 W vl zs) (hm : (Lit.int .u8 m).wf = true) (hO : Ok W) :
    Calls Tryd.prog 9 #[vl, .int .u8 m] W fun e w' => e = .returned (.bool true) ∧ Below W.heap.size W w' := by
  obtain ⟨a, cap, rfl, -⟩ := id hl
  have HL0 := Lib.hid hl
  have hmb := bounds_u8 hm
  obtain ⟨m, rfl⟩ : ∃ k : Nat, m = (k : Int) := ⟨m.toNat, by omega⟩
  have hm8 : m < 256 := by omega
  have HO := Lib.hid hO
  have H5 : Hid (five (madeT zs)) := Lib.hid (madeK_five zs _)
  clear hm hmb hO hl
  go_enter Tryd.func9, Tryd.ntmps9
  go_wp2_with fail
  refine (awake_any W HO.out).mono ?_
  rintro e' w1 ⟨rfl, hb1⟩
  have HB1 := Lib.hid hb1
  have HMD := Lib.hid (made_any zs _ w1 (HL0.out.below hb1))
  clear hb1 HL0
  generalize madeT zs = t at HMD H5
  go_wp2_with fail
  refine HMD.out.mono ?_
  rintro e' w2 ⟨⟨a2, l2, p2, a3, l3, p3, rfl, hv⟩, hb⟩
  obtain ⟨c0, c1, e, hI, hK⟩ := id hv
  simp only [Value.agg.injEq, Array.mk.injEq, List.cons.injEq, and_true] at e
  obtain ⟨rfl, rfl⟩ := e
  obtain rfl : l2 = 5 := by obtain ⟨_, _, e, -⟩ := hI; cases e; exact H5.out.2
  have hb3 := (Below.refl w2.heap.size w2).alloc (Nat.le_refl _) (.cells #[.slice a2 5 p2, .slice a3 l3 p3] 25)
  have HB := Lib.hid (bOn HB1.out (bOn hb hb3))
  have HBT := Lib.hid (Bt.new w2 (.slice a2 5 p2) (.slice a3 l3 p3))
  have HV := Lib.hid (hv.below hb3)
  have HI := Lib.hid (hI.below hb3)
  clear hb hb3 hv hI hK HMD HB1
  go_upto_region 5 with fail
  generalize w2.heap.size = n2 at HBT ⊢
  generalize w2.alloc _ = w3 at HB HBT HV HI ⊢
  rcases HI.out.parts with ⟨h, -⟩ | ⟨-, -, b, off, cap', hv, hbk, hc⟩
  · have := H5.out.2; rw [h] at this; cases this
  simp only [Value.slice.injEq] at hv
  obtain ⟨rfl, -, rfl⟩ := hv
  have HCW : Hid (∀ i, i < 5 → ∀ X, Below w3.heap.size w3 X → X.cell? ⟨b, off + i, none⟩ = some (.int .u64 (Tl.W t i))) := Lib.hid (fun i hi X hX => (hX.cell (p := ⟨b, off + i, none⟩) hbk).trans (hc i (by rw [H5.out.2]; exact hi)))
  clear hc hbk
  go_wp2
  go_loopw [7, 8] (fun f i wr => ∃ d : Nat, d ≤ 5 ∧ i = .int .i64 (4 - (d : Int)) ∧ f = .int .i64 (Tl.fdown t d) ∧ Hid (Below w3.heap.size w3 wr)) (fun _ i _ => (intOf i + 1).toNat)
  case atStart => exact ⟨0, by omega, rfl, rfl, Lib.hid (Below.refl _ _)⟩
  case round =>
    obtain ⟨d, hd, rfl, rfl, HJ⟩ := hrel
    by_cases hlt : d < 5
    · obtain ⟨x0, x1⟩ := (HBT.out.below HJ.out).cells
      obtain ⟨i, hi⟩ : ∃ i : Nat, i = 4 - d := ⟨_, rfl⟩
      have hii : (4 : Int) - (d : Int) = (i : Int) := by omega
      have k0 := HCW.out i (by omega) wr HJ.out
      have HU : Hid (U (Tl.W t i)) := Lib.hid (HV.out.U (by rw [H5.out.2]; omega))
      have HFR : Hid (Tl.fdown t (d + 1) = if Tl.fr (Tl.W t i) = true then (i : Int) else Tl.fdown t d) := Lib.hid (by rw [hi]; rfl)
      have HMY : Hid (mayN (Tl.W t i) 0 = Tl.fr (Tl.W t i)) := Lib.hid (by
        have h := Tl.take_iff (w := Tl.W t i) (c := 0) (H5.out.1.2.2 i (by rw [H5.out.2]; omega)).1 (by decide)
        unfold mayN
        cases hf : Tl.fr (Tl.W t i) with
        | true => simp [h.2 hf]
        | false =>
          have : nxE (Tl.W t i) 0 0 ≠ 0 := fun e => by rw [h.1 e] at hf; cases hf
          simp [this])
      rw [hii]
      clear hi
      generalize Tl.W t i = zz at k0 HU HFR HMY
      have hi0 : decide ((i : Int) ≥ 0) = true := decide_eq_true (by omega)
      have hi5 : (i : Int) < 5 := by omega
      go_wp2_with fail
      refine (rmay7_any zz 0 HU.out wr).mono ?_
      rintro e' w4 ⟨rfl, hb4⟩
      rw [HMY.out]
      have HB4 := Lib.hid (bOn HJ.out hb4)
      clear hb4 k0 x0 x1 HMY
      cases hf : Tl.fr zz with
      | true =>
        have HN := Lib.hid (HFR.out.trans (if_pos hf))
        clear hf
        go_wp2
        exact ⟨⟨d + 1, by omega, by go_num, by rw [HN.out], HB4⟩, by simp [intOf]⟩
      | false =>
        have HN := Lib.hid (HFR.out.trans (if_neg (by rw [hf]; decide)))
        clear hf
        go_wp2
        exact ⟨⟨d + 1, by omega, by go_num, by rw [HN.out], HB4⟩, by simp [intOf]⟩
    · obtain rfl : d = 5 := by omega
      have HFV := Lib.hid (Tl.fdown_vac H5.out.2)
      rw [HFV.out]
      have hor : bits .or .u64 (m : Int) 1 = ((m ||| 1 : Nat) : Int) := by
        have := bits_or_u64_nat m 1 (by omega) (by omega)
        simpa using this
      have hV1 : V (m ||| 1) := Mk.V_or (show m < 18446744073709551616 by omega) (show 1 < 18446744073709551616 by decide)
      have HAL := Lib.hid (Tl.al_odd m)
      have HCR := Lib.hid (create_g (HV.out.below HJ.out) ((HO.out.below HB.out).below HJ.out) 8 3 (m ||| 1) hV1)
      have HF := Lib.hid (fun h => Tl.cr_facts (t := t) (c := 8) (n := 3) (m := m ||| 1) h)
      have HOK : Hid (Tl.okC 8 3 (m ||| 1)) := Lib.hid ⟨by decide, by decide, HAL.out⟩
      obtain ⟨x0, x1⟩ := (HBT.out.below HJ.out).cells
      clear hV1 HAL HFV
      have HCW0 := HCW
      clear HCW
      generalize m ||| 1 = mm at hor HCR HF HOK
      go_upto_region 11 with fail
      by_cases hv : Tl.vac t.ws < 5
      case neg =>
        have hvI : Tl.vacI t.ws = -1 := by unfold Tl.vacI; rw [H5.out.2, if_neg hv]
        have hE : Tl.crE t 8 3 mm = 5 := Tl.crE_full H5.out.1 HOK.out (by rw [H5.out.2]; exact hv)
        have hT : Tl.crT t 8 3 mm = Tl.t0 := (Tl.cr_no (by rw [hE]; decide)).1
        rw [hvI]
        rw [hE, hT] at HCR
        generalize Tl.crH t 8 3 mm = hd at HCR
        obtain ⟨hs, hg⟩ := hd
        clear hvI hE hT hv HF HOK
        go_wp2_with fail
        refine HCR.out.mono ?_
        rintro e' w4 ⟨⟨a4, l4, p4, a5, l5, p5, rfl, hv4⟩, hb4⟩
        obtain ⟨c0, c1, e, hI4, hK4⟩ := hv4
        simp only [Value.agg.injEq, Array.mk.injEq, List.cons.injEq, and_true] at e
        obtain ⟨rfl, rfl⟩ := e
        obtain rfl : l4 = 0 := by obtain ⟨_, _, e, -⟩ := hI4; cases e; rfl
        have HB5 := Lib.hid ((bOn HB.out (bOn HJ.out hb4)))
        have HB6 := Lib.hid (bOn HB5.out (bOn ((Below.refl w4.heap.size w4).alloc (Nat.le_refl _) (.cells #[.slice a4 0 p4, .slice a5 l5 p5] 25)) ((Below.refl (w4.alloc (.cells #[.slice a4 0 p4, .slice a5 l5 p5] 25)).heap.size (w4.alloc (.cells #[.slice a4 0 p4, .slice a5 l5 p5] 25))).alloc (Nat.le_refl _) (.cells #[.int .i64 hs, .int .i64 hg] 27))))
        clear hb4 hI4 hK4 x0 x1 HCR HB5
        go_wp2
        go_ret
        exact ⟨rfl, HB6.out⟩
      have hvI : Tl.vacI t.ws = (Tl.vac t.ws : Int) := by unfold Tl.vacI; rw [H5.out.2, if_pos hv]
      have hE : Tl.crE t 8 3 mm = 0 := Tl.crE_ok H5.out.1 HOK.out (by rw [H5.out.2]; exact hv)
      obtain ⟨i, hi, hi5, hk0, hH, hl1, hl2, -, hk1, hg1, hlv, hck⟩ := HF.out hE
      rw [hvI, ← hi]
      rw [hE, hH] at HCR
      rw [H5.out.2] at hi5 hl1 hlv
      have HL1 := Lib.hid hl1
      have HLV := Lib.hid hlv
      have HCK := Lib.hid hck
      clear hvI hE hv HF HOK hi hH hk0 hl1 hl2 hk1 hg1 hlv hck
      generalize Tl.crT t 8 3 mm = tU at HCR HL1 HLV HCK
      have HU : Hid (U (Tl.W t i)) := Lib.hid (HV.out.U (by rw [H5.out.2]; exact hi5))
      have HKK : Hid (∀ X, Below w3.heap.size w3 X → X.cell? ⟨b, off + i, none⟩ = some (.int .u64 (Tl.W t i))) := Lib.hid (HCW0.out i hi5)
      clear HCW0
      generalize Tl.W t i = zz at HU HKK HCR HCK
      obtain ⟨gz, hgz⟩ : ∃ gz, G zz = gz := ⟨_, rfl⟩
      have hg0 : 0 ≤ gz := by rw [← hgz]; unfold G; omega
      have hg1 : gz ≤ 4294967295 := by rw [← hgz]; unfold G; omega
      have HGEN := Lib.hid (fun X => rgen_any zz HU.out X)
      rw [hgz] at HGEN HCR HCK
      clear hgz HU
      have hi0 : decide ((i : Int) < 0) = false := decide_eq_false (by omega)
      go_wp2_with fail
      refine HCR.out.mono ?_
      rintro e' w4 ⟨⟨a4, l4, p4, a5, l5, p5, rfl, hv4⟩, hb4⟩
      have BG : Hid (Bag w3 ((w4.alloc (.cells #[.slice a4 l4 p4, .slice a5 l5 p5] 25)).alloc (.cells #[.int .i64 (i : Int), .int .i64 (gz + 1)] 27)) [.h (w4.heap.size + 1) ⟨(i : Int), gz + 1⟩, .t w4.heap.size tU]) := Lib.hid (((⟨bOn HJ.out hb4, by simp⟩ : Bag w3 w4 [])).th hv4 ⟨(i : Int), gz + 1⟩)
      have HV4 : Hid (Tv ((w4.alloc (.cells #[.slice a4 l4 p4, .slice a5 l5 p5] 25)).alloc (.cells #[.int .i64 (i : Int), .int .i64 (gz + 1)] 27)) (.agg #[.slice a4 l4 p4, .slice a5 l5 p5]) tU) := Lib.hid (hv4.below (bOn ((Below.refl w4.heap.size w4).alloc (Nat.le_refl _) _) ((Below.refl _ _).alloc (Nat.le_refl _) _)))
      have HU4 : Hid (Bt ((w4.alloc (.cells #[.slice a4 l4 p4, .slice a5 l5 p5] 25)).alloc (.cells #[.int .i64 (i : Int), .int .i64 (gz + 1)] 27)) w4.heap.size (.slice a4 l4 p4) (.slice a5 l5 p5)) := Lib.hid ((Bt.new w4 _ _).below ((Below.refl _ _).alloc (Nat.le_refl _) _))
      clear hb4 hv4 HCR x0 x1
      go_upto_region 14 with fail
      generalize w4.heap.size = n4 at BG HU4 ⊢
      generalize (w4.alloc _).alloc _ = w0 at BG HV4 HU4 ⊢
      have HH4 := Lib.hid (BG.out.getH (n := n4 + 1) (x := ⟨(i : Int), gz + 1⟩) (by simp))
      have HB0 := Lib.hid BG.out.bel
      clear BG
      obtain ⟨nt, hnt⟩ : ∃ nt, (Tl.live t.ws 5).length = nt := ⟨_, rfl⟩
      rw [hnt] at HLV
      have HT : Hid (∀ X Y, Below w0.heap.size w0 X → Below X.heap.size X Y → Below w0.heap.size w0 Y) := Lib.hid (fun X Y h1 h2 => bOn h1 h2)
      have HGS : Hid (∀ X, Below w0.heap.size w0 X → X.cell? ⟨n2, 0, none⟩ = some (.slice (some ⟨b, off, none⟩) 5 p2) ∧ X.cell? ⟨n2, 1, none⟩ = some (.slice a3 l3 p3) ∧ X.cell? ⟨n4, 0, none⟩ = some (.slice a4 l4 p4) ∧ X.cell? ⟨n4, 1, none⟩ = some (.slice a5 l5 p5) ∧ X.cell? ⟨n4 + 1, 0, none⟩ = some (.int .i64 (i : Int)) ∧ X.cell? ⟨n4 + 1, 1, none⟩ = some (.int .i64 (gz + 1)) ∧ X.cell? ⟨b, off + i, none⟩ = some (.int .u64 zz)) := Lib.hid (fun X hX => by
        have g1 := (HBT.out.below (bOn HB0.out hX)).cells
        have g2 := (HU4.out.below hX).cells
        have g3 := (HH4.out.below hX).cells
        exact ⟨g1.1, g1.2, g2.1, g2.2, g3.1, g3.2, HKK.out X (bOn HB0.out hX)⟩)
      have HLA : Hid (∀ X, Below w0.heap.size w0 X → Calls Tryd.prog 23 #[.agg #[.slice a4 l4 p4, .slice a5 l5 p5]] X fun e w' => (∃ a c, e = .returned (.slice a (nt + 1) c)) ∧ Below w0.heap.size w0 w') := Lib.hid (fun X hX => by
        refine (live_any tU _ X (HV4.out.below hX) (((HO.out.below HB.out).below HB0.out).below hX).1 (by rw [HL1.out]; decide)).mono fun e w' h => ?_
        obtain ⟨⟨vs, rfl, hvs⟩, hb⟩ := h
        obtain ⟨a, c, rfl, -, -⟩ := hvs.shape
        rw [HL1.out, HLV.out]
        exact ⟨⟨a, c, rfl⟩, HT.out X w' hX hb⟩)
      have HLB : Hid (∀ X, Below w0.heap.size w0 X → Calls Tryd.prog 23 #[.agg #[.slice (some ⟨b, off, none⟩) 5 p2, .slice a3 l3 p3]] X fun e w' => (∃ a c, e = .returned (.slice a nt c)) ∧ Below w0.heap.size w0 w') := Lib.hid (fun X hX => by
        refine (live_any t _ X (HV.out.below (bOn HB0.out hX)) (((HO.out.below HB.out).below HB0.out).below hX).1 (by rw [H5.out.2]; decide)).mono fun e w' h => ?_
        obtain ⟨⟨vs, rfl, hvs⟩, hb⟩ := h
        obtain ⟨a, c, rfl, -, -⟩ := hvs.shape
        rw [H5.out.2, hnt]
        exact ⟨⟨a, c, rfl⟩, HT.out X w' hX hb⟩)
      have HCC : Hid (∀ X, Below w0.heap.size w0 X → Calls Tryd.prog 22 #[.agg #[.slice a4 l4 p4, .slice a5 l5 p5], .agg #[.int .i64 (i : Int), .int .i64 (gz + 1)]] X fun e w' => e = .returned (.int .i64 0) ∧ Below w0.heap.size w0 w') := Lib.hid (fun X hX => by
        have := check_any tU (i : Int) (gz + 1) _ X (HV4.out.below hX) (((HO.out.below HB.out).below HB0.out).below hX).1
        rw [HCK.out] at this
        exact this.mono fun e w' h => ⟨h.1, HT.out X w' hX h.2⟩)
      have hnt5 : nt ≤ 5 := by rw [← hnt]; exact Tl.live_le _ _
      have HD0 : Hid (Below w0.heap.size w0 w0.drew) := Lib.hid (Below.refl _ _).drew
      have hii : ((i : Int) == (i : Int)) = true := by simp
      have hgg : (gz + 1 == gz + 1) = true := by simp
      have hnn : ((nt : Int) + 1 == (nt : Int) + 1) = true := by simp
      have hx1 := HGS.out _ HD0.out
      have hD0 := HD0.out
      have HBW : Hid (∀ X, Below w0.heap.size w0 X → Below W.heap.size W X) := Lib.hid (fun X hX => bOn HB.out (bOn HB0.out hX))
      have hil : (i : Int) < 5 := by omega
      have hil0 : (0 : Int) ≤ (i : Int) := by omega
      clear hi0
      have hw1 : IntKind.i64.wrap (gz + 1) = gz + 1 := IntWalk.i64_in _ (by omega)
      have hw2 : IntKind.i64.wrap ((nt : Int) + 1) = (nt : Int) + 1 := IntWalk.i64_in _ (by omega)
      clear HD0 hnt HLV HCK HKK HV4 HU4 HH4 HB0 HB HBT HV HI H5 HJ HL1
      go_region_held3 (fun X => X.cell? ⟨n2, 0, none⟩ = some (.slice (some ⟨b, off, none⟩) 5 p2) ∧ X.cell? ⟨n2, 1, none⟩ = some (.slice a3 l3 p3) ∧ X.cell? ⟨n4, 0, none⟩ = some (.slice a4 l4 p4) ∧ X.cell? ⟨n4, 1, none⟩ = some (.slice a5 l5 p5) ∧ X.cell? ⟨n4 + 1, 0, none⟩ = some (.int .i64 (i : Int)) ∧ X.cell? ⟨n4 + 1, 1, none⟩ = some (.int .i64 (gz + 1)) ∧ X.cell? ⟨b, off + i, none⟩ = some (.int .u64 zz))
        (first
          | exact hx1
          | (with_reducible exact HGS.out _ (by assumption))
          | go_keep)
        (first
          | (go_at_call 16; with_reducible refine (HGEN.out _).mono ?_; rintro e' w' ⟨rfl, rfl⟩)
          | (go_at_call 23; first | (with_reducible refine (HLA.out _ (by assumption)).mono ?_; rintro e' wA ⟨⟨aA, cA, rfl⟩, hbA⟩) | (with_reducible refine (HLB.out _ (by assumption)).mono ?_; rintro e' wB ⟨⟨aB, cB, rfl⟩, hbB⟩))
          | (go_at_call 22; with_reducible refine (HCC.out _ (by assumption)).mono ?_; rintro e' wc ⟨rfl, hbc⟩))
      all_goals
        go_wp2
        go_ret
        exact ⟨rfl, HBW.out _ (by assumption)⟩

theorem met (os : Os) : laidMet Tryd.prog Rows.tableFirstRow.laid ((laidWorld os).forCall (fun _ _ => 0) ⟨#[], #[.slice none 0 0, .int .u8 0], []⟩).memory := laidMet_of_run' 8 (by kernel_rfl) (by kernel_rfl)
theorem reads (os : Os) {H : Type} (enc : TypeId × Value → H) : ∃ ps, DataW.whole enc Tryd.prog ((laidWorld os).forCall (fun _ _ => 0) ⟨#[], #[.slice none 0 0, .int .u8 0], []⟩).memory Tryd.f9.params.toList Rows.tableFirstSpec.vars false #[Value.slice none 0 0, Value.int .u8 0].toList 8 = some ([.nil, .lit (.int .u8 0)], [], ps) := ⟨[], by kernel_rfl⟩
set_option maxRecDepth 100000 in
theorem lifted (os : Os) (started : os.Started) (H : Type) (enc : TypeId × Value → H) (F : Stop.Interp) :
    ReturnsInHanded {} Tryd.checked os 9 .any ((OpenSpec.ofChange Rows.tableFirstSpec).preRow enc Tryd.prog Tryd.f9 Rows.tableFirstRow.domain false Rows.tableFirstRow.laid) (((OpenSpec.ofChange Rows.tableFirstSpec).at F).post enc Tryd.prog Tryd.f9 false true false false) := by
  obtain ⟨ps, hx⟩ := reads os enc
  refine returnsInHanded_of_row (C := Tryd.checked) (s := OpenSpec.ofChange Rows.tableFirstSpec) own started (by kernel_rfl) Tryd.func9 (witness_row_at (enc := enc) (C := Tryd.checked) false (laidWorld os) #[.slice none 0 0, .int .u8 0] rfl (by kernel_rfl) (by kernel_rfl) (by kernel_rfl) (OpenSpec.preRow_of_cond 8 hx (by kernel_rfl) (fun k hk => by cases hk) (by kernel_rfl) (met os))) ?_
  intro W base args ds gs before hval0 hW _ _ _ hL _ _
  have hval : ∀ (j : Nat) t v, Tryd.f9.params[j]? = some t → args[j]? = some v → Value.okWide Tryd.prog W .any base t v := hval0
  have hW' := hW
  obtain ⟨p, q, hA0, hV, rfl, -, -⟩ := hW
  have hA : DataW.TrodAll enc Tryd.prog W 0 (fun _ => true) true Tryd.f9.params.toList args.toList ds p := hA0
  rw [Tryd.params9] at hA hval
  obtain ⟨v0, vs0, d0, ds0, p0, q0, hargs, rfl, rfl, h0, r0⟩ := trodAll_cons hA
  obtain ⟨v1, vs1, d1, ds1, p1, q1, rfl, rfl, rfl, h1, r1⟩ := trodAll_cons r0
  obtain ⟨rfl, rfl, rfl⟩ := trodAll_nil r1
  obtain rfl : args = #[v0, v1] := by cases args; simp_all
  obtain ⟨rfl, rfl⟩ := trodVars_none hV
  obtain ⟨a0, w0⟩ := ints_arg Tryd.underlying38 Tryd.underlying39 (by kernel_rfl) (hval 0 38 v0 rfl rfl) h0
  obtain ⟨a1, rfl, rfl, rfl, w1⟩ := open_int Tryd.underlying5 (hval 1 5 v1 rfl rfl) h1
  clear hA0 hval0
  refine (walk v0 a0 a1 W w0 w1 (tab_laid hL)).mono fun e W' ⟨he, hb⟩ => ?_
  subst he
  exact ⟨_, rfl, post_law laidOut (by kernel_rfl) rfl (by kernel_rfl) Tryd.underlying4 hW' rfl hb⟩

theorem row : Rows.TableFirstSaid :=
  OpenClaim.holds_of_cond 9 Tryd.f9 rfl rfl rfl rfl rfl rfl rfl ⟨rfl, rfl, rfl, rfl, rfl⟩ rfl rfl rfl rfl rfl (by kernel_rfl) Tryd.func9 (by kernel_rfl)
    (of_decide_eq_true (by kernel_rfl)) (by unfold Func.isWrapper; first | (rw [if_pos (by decide +kernel)]; kernel_rfl) | (rw [if_neg (by decide +kernel)]; exact ⟨rfl, rfl⟩))
    (fun os started H enc _ F => by rw [OpenClaim.pre_eq_preRow]; exact lifted os started H enc F)
theorem simple (f : FuncId) (fn : Func) (hf : Tryd.pinned.checked.prog.funcNamed Rows.tableFirstRow.func = some f) (hfn : Tryd.pinned.checked.prog.funcs[f]? = some fn) :
    true = Tryd.pinned.checked.prog.looks [] ∧ ∀ (j : Nat) t, fn.params[j]? = some t → Tryd.pinned.checked.prog.wantsStandIn t = false := by
  have e1 : Tryd.prog.funcNamed Rows.tableFirstRow.func = some 9 := by kernel_rfl
  cases e1.symm.trans hf
  cases Tryd.func9.symm.trans hfn
  exact ⟨by kernel_rfl, no_stand (P := Tryd.prog) (by kernel_rfl)⟩
/-- **TableFirst**: the given statement, a tied card. -/
theorem proved : Rows.TableFirstCardSaid :=
  Claim7.holds_tied_plain_at .later [] _ _ _ _ row (fun _ h => by cases h) (by kernel_rfl) (fun _ h => by cases h) tableFirst_row_tie rfl ⟨rfl, rfl⟩ (by kernel_rfl) rfl simple (by kernel_rfl)
end Go.Proofs.YtjikabalpejmlaaDoor.tableFirst
