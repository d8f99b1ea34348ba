/-
  TreeFlat returns true at every input, and turns nothing that was there: twice to the power of half the height of a tree that is made by keys put in is no more than one more than there are nodes.
-/
import Derived.Test.YtgjacmkedgbneaaTwX
import Derived.Test.YtgjacmkedgbneaaPost
import Derived.Deep.DeepCutAuto
namespace Go.Proofs.Ytgjacmkedgbneaa.treeFlat
open Go.ChangeShapes Go.WideShapes Go.ChangeAt Go.RowKit Go.Sort Wd Tn Ky Tr

theorem _root_.Go.Proofs.Ytgjacmkedgbneaa.Nds.other {w : World} {v : Value} {l : List N} {q o n c : Nat} {x : Int} {a : Option Addr} {ty : TypeId} {y : Value} (h : Nds w v l) (hT : Tb w q x (.slice a n c) ty) : Nds (w.setCell ⟨q, o, none⟩ y) v l := by
  obtain ⟨a', cap, rfl, hm, hw, hc⟩ := h
  refine ⟨a', cap, rfl, hm, hw, fun hz => ?_⟩
  obtain ⟨b, off, rfl, hc2⟩ := hc hz
  have hne : b ≠ q := by
    rintro rfl
    have h0 := (hc2 0 (List.length_pos_iff.2 hz)).1
    have hT' : w.heap[b]? = _ := hT
    simp only [World.cell?, hT'] at h0
    rcases (show off + 0 * 6 = 0 ∨ off + 0 * 6 = 1 ∨ 2 ≤ off + 0 * 6 by omega) with e | e | e
    · rw [e] at h0; simp at h0
    · rw [e] at h0; simp at h0
    · rw [Array.getElem?_eq_none (by simpa using e)] at h0; cases h0
  refine ⟨b, off, rfl, fun i hi => ?_⟩
  have e : ∀ k, (w.setCell ⟨q, o, none⟩ y).cell? ⟨b, k, none⟩ = w.cell? ⟨b, k, none⟩ := fun k => by
    unfold World.cell?
    rw [Below.heap_setCell _ _ _ _ (show b ≠ (⟨q, o, none⟩ : Addr).block from hne)]
  have := hc2 i hi
  unfold Nc at this ⊢
  simp only [e]
  exact this
theorem _root_.Go.Proofs.Ytgjacmkedgbneaa.Tb.storeX {w : World} {q : Nat} {x : Int} {v : Value} {ty : TypeId} (h : Tb w q x v ty) (x' : Int) : Tb (w.setCell ⟨q, 0, none⟩ (.int .i64 x')) q x' v ty := by
  unfold Tb at h ⊢
  simp only [World.setCell, Array.getElem?_modify, if_true, h]
  rfl
/-- One more key, or not. -/
theorem one_more {m : Int} {k : K} {t : T} {b : B} (hw : Whole t b) (hr : RightB m b) (hkin : Kin k) (hU : ∀ x ∈ b.keys, Kin x) (hk : t.has k.2) :
    ∃ t' e, Ins m k t t' e ∧ (e = 1 ∨ (e = 0 ∧ t'.ns.length = t.ns.length ∧ ∃ b', Whole t' b' ∧ RightB m b')) := by
  cases hi : (t.nd k.2).inn with
  | true => exact ⟨_, _, .arg ⟨b, hw, hr⟩ (.inr hi), .inl rfl⟩
  | false =>
    obtain ⟨n, n2, u, s, t', b', h1, h2, h3, h4, -⟩ := ins_all hw hr hkin hU hk hi
    refine ⟨t', 0, .done ⟨b, hw, hr⟩ hk hi n n2 u s t' h1 h2, .inr ⟨rfl, ?_, b', h3, h4⟩⟩
    rw [h2.len, hang_len, put_len]
theorem new64 : newT 64 = ⟨-1, List.replicate 64 nE⟩ ∧ newE 64 = 0 := ⟨rfl, rfl⟩
theorem whole64 : Whole ⟨-1, List.replicate 64 nE⟩ .L := ⟨by decide, rfl, trivial, List.nodup_nil, fun i _ _ => by unfold T.nd; rw [List.getD, List.getElem?_replicate]; split <;> rfl⟩
theorem right64 (m : Int) : RightB m .L := ⟨rfl, List.Pairwise.nil, rfl⟩

set_option maxHeartbeats 4000000 in
set_option maxRecDepth 100000 in
theorem walk (m : Int) (vl : Value) (zs : List Int) (W : World) (_hm : (Lit.int .u64 m).wf = true) (hl : Ints .u16 W vl zs) :
    Calls Try.prog 7 #[.int .u64 m, vl] W fun e w' => e = .returned (.bool true) ∧ Below W.heap.size W w' := by
  have HL := Lib.hid hl
  obtain ⟨al, cl, rfl, hmx, -, -⟩ := hl
  unfold maxLen at hmx
  have HAW := Lib.hid (awake_at W)
  go_enter Try.func7, Try.ntmps7
  go_wp2_with fail
  refine HAW.out.mono ?_
  rintro e' w1 ⟨rfl, hb1⟩
  have HB1 := Lib.hid hb1
  clear HAW hb1
  have HNW := Lib.hid (New_s 64 w1)
  rw [new64.1, new64.2] at HNW
  change Hid (Calls Try.prog _ _ _ fun en w' => ∃ a cap, en = .returned (.tuple #[.agg #[.int .i64 (-1), .slice a 64 cap], .int .i64 0]) ∧ Nds w' (.slice a 64 cap) (List.replicate 64 nE) ∧ Below w1.heap.size w1 w') at HNW
  go_wp2_with fail
  refine HNW.out.mono ?_
  rintro e' w2 ⟨a2, c2, rfl, hn2, hb2⟩
  have HX2 := Lib.hid ((Below.refl w2.heap.size w2).alloc (Nat.le_refl _) (.cells #[.int .i64 (-1), .slice a2 64 c2] 24))
  have HB2 := Lib.hid (bOnA (bOnA HB1.out hb2 (Nat.le_refl _)) HX2.out (Nat.le_refl _))
  have HT2 := Lib.hid (Tb.new w2 (-1) (.slice a2 64 c2) 24)
  have HN2 := Lib.hid (hn2.below HX2.out)
  have HQ2 : Hid (W.heap.size ≤ w2.heap.size) := Lib.hid (Nat.le_trans HB1.out.size hb2.size)
  clear HNW hn2 hb2 HX2 HB1
  go_upto_region 8 with fail
  generalize w2.heap.size = q at HT2 HQ2 ⊢
  generalize w2.alloc (.cells #[.int .i64 (-1), .slice a2 64 c2] 24) = w3 at HT2 HN2 HB2 ⊢
  go_loopw [8] (fun i wr => ∃ j : Nat, j ≤ zs.length ∧ i = .int .i64 j ∧ Hid (∃ (t : T) (b : B) (a : Option Addr) (c : Nat), t.ns.length = 64 ∧ Tb wr q t.root (.slice a 64 c) 24 ∧ Nds wr (.slice a 64 c) t.ns ∧ Whole t b ∧ RightB m b ∧ Below W.heap.size W wr)) (fun i _ => zs.length - (intOf i).toNat)
  case atStart => exact ⟨0, by omega, rfl, Lib.hid ⟨⟨-1, List.replicate 64 nE⟩, .L, a2, c2, rfl, HT2.out, HN2.out, whole64, right64 m, HB2.out⟩⟩
  case round =>
    obtain ⟨j, hj, rfl, HJ⟩ := hrel
    obtain ⟨t, b, a, c, ht64, hTb, hNd, hW, hR, hB⟩ := HJ.out
    have H64 := Lib.hid ht64
    have HTb := Lib.hid hTb
    have HNd := Lib.hid hNd
    have HWh := Lib.hid (And.intro hW hR)
    have HB := Lib.hid hB
    clear HJ ht64 hTb hNd hW hR hB HT2 HN2 HB2
    by_cases hlt : j < zs.length ∧ j < 60
    · obtain ⟨hlt1, hlt2⟩ := hlt
      rcases (HL.out.below HB.out).parts with ⟨h0, -⟩ | ⟨-, -, nb, off, cl', hv, -, hcell⟩
      · rw [h0] at hlt1; simp at hlt1
      · simp only [Value.slice.injEq] at hv
        obtain ⟨rfl, -, rfl⟩ := hv
        have c1 := hcell j hlt1
        obtain ⟨z, hz⟩ : ∃ z, zs.getD j 0 = z := ⟨_, rfl⟩
        have hzw : (Lit.int .u16 z).wf = true := by
          rw [← hz]
          refine HL.out.wf _ ?_
          simp [List.getD, hlt1]
        rw [hz] at c1
        have hzb : 0 ≤ z ∧ z < 65536 := by have := bounds_u16 hzw; omega
        have HOP := Lib.hid (Op_at m z hzb.1 hzb.2 64 (by omega) (by omega) wr)
        have HID : Hid (0 ≤ (opK m z 64).2 ∧ (opK m z 64).2 < 64) := Lib.hid (by unfold opK; simp only; omega)
        generalize opB z = ob at HOP
        generalize opK m z 64 = ok at HOP HID
        have hj60 : (j : Int) < 60 := by omega
        have hjl : (j : Int) < (zs.length : Int) := by omega
        clear hcell hz hzw
        go_wp2_with fail
        refine HOP.out.mono ?_
        rintro e' w4 ⟨rfl, hb4⟩
        have HX4 := Lib.hid (hb4.alloc hb4.size (.cells #[.int .u64 ok.1, .int .i64 ok.2] 27))
        have HKB := Lib.hid (Kb.new w4 ok)
        have HTb4 := Lib.hid (HTb.out.below HX4.out HTb.out.lt)
        have HNd4 := Lib.hid (HNd.out.below HX4.out)
        have HB4 := Lib.hid (bOnA HB.out HX4.out (Nat.le_refl _))
        clear HOP hb4 HX4 HTb HNd HB c1
        go_upto_region 11 with fail
        generalize w4.heap.size = qk at HKB ⊢
        generalize w4.alloc (.cells #[.int .u64 ok.1, .int .i64 ok.2] 27) = w5 at HKB HTb4 HNd4 HB4 ⊢
        obtain ⟨k0, k1, -, -, -⟩ := HKB.out.all
        obtain ⟨x0, x1, -, -⟩ := HTb4.out.all
        have HKIN : Hid (Kin (IntKind.u64.wrap (m + j), ok.2)) := Lib.hid ⟨U_wrap _, by have := HID.out; unfold I; simp only; omega⟩
        obtain ⟨t', er, hI, hres⟩ := one_more (k := (IntKind.u64.wrap (m + j), ok.2)) HWh.out.1 HWh.out.2 HKIN.out (Sub.keyU HNd4.out.us HWh.out.1.len HWh.out.1.sub) (by unfold T.has; have := HID.out; have := H64.out; simp only; omega)
        have HIN := Lib.hid (Insert_s HNd4.out HKIN.out hI)
        have HRES := Lib.hid hres
        clear hI hres
        go_wp2_with fail
        refine HIN.out.mono ?_
        rintro e' w6 ⟨a6, c6, rfl, hn6, hb6⟩
        have HA6 := Lib.hid ((Below.refl w6.heap.size w6).alloc (Nat.le_refl _) (.cells #[.int .i64 t'.root, .slice a6 t'.ns.length c6] 24))
        have HX6 := Lib.hid (hb6.alloc hb6.size (.cells #[.int .i64 t'.root, .slice a6 t'.ns.length c6] 24))
        have HTU := Lib.hid (Tb.new w6 t'.root (.slice a6 t'.ns.length c6) 24)
        have HNU := Lib.hid (hn6.below HA6.out)
        have HTb6 := Lib.hid (HTb4.out.below HX6.out HTb4.out.lt)
        have HNd6 := Lib.hid (HNd4.out.below HX6.out)
        have HB6 := Lib.hid (bOnA HB4.out HX6.out (Nat.le_refl _))
        have HQU : Hid (q ≠ w6.heap.size) := Lib.hid (by have h1 := HTb4.out.lt; have h2 := hb6.size; omega)
        clear HIN hn6 hb6 HA6 HX6 HTb4 HNd4 HB4 HKB k0 k1 x0 x1
        go_upto_region 12 with fail
        generalize w6.heap.size = qu at HTU HQU ⊢
        generalize w6.alloc (.cells #[.int .i64 t'.root, .slice a6 t'.ns.length c6] 24) = w7 at HTU HNU HTb6 HNd6 HB6 ⊢
        rcases HRES.out with rfl | ⟨rfl, hl64, b', hw', hr'⟩
        · clear HRES
          go_wp2
          exact ⟨⟨j + 1, by omega, by go_num, Lib.hid ⟨t, b, a, c, H64.out, HTb6.out, HNd6.out, HWh.out.1, HWh.out.2, HB6.out⟩⟩, by simp [intOf]; omega⟩
        · have H64' : Hid (t'.ns.length = 64) := Lib.hid (hl64.trans H64.out)
          rw [H64'.out] at HTU HNU
          have HWh' := Lib.hid (And.intro hw' hr')
          obtain ⟨u0, u1, -, -⟩ := HTU.out.all
          obtain ⟨y0, y1, y2, y3⟩ := HTb6.out.all
          have HTF := Lib.hid (HTb6.out.store t'.root (.slice a6 64 c6))
          have HNF : Hid (Nds ((w7.setCell ⟨q, 0, none⟩ (.int .i64 t'.root)).setCell ⟨q, 1, none⟩ (.slice a6 64 c6)) (.slice a6 64 c6) t'.ns) := Lib.hid ((HNU.out.other HTb6.out).other (HTb6.out.storeX t'.root))
          have HBF := Lib.hid ((HB6.out.setCell (p := ⟨q, 0, none⟩) HQ2.out (.int .i64 t'.root)).setCell (p := ⟨q, 1, none⟩) HQ2.out (.slice a6 64 c6))
          clear HRES hl64 hw' hr'
          go_wp2
          exact ⟨⟨j + 1, by omega, by go_num, Lib.hid ⟨t', b', a6, c6, H64'.out, HTF.out, HNF.out, HWh'.out.1, HWh'.out.2, HBF.out⟩⟩, by simp [intOf]; omega⟩
    · have HWA := Lib.hid (Walk_at HNd.out (t := t) (.inl ⟨b, HWh.out.1, rfl⟩))
      unfold tv at HWA
      obtain ⟨x0, x1, -, -⟩ := HTb.out.all
      have hcond : ¬ ((j : Int) < (zs.length : Int) ∧ (j : Int) < 60) := fun h => hlt ⟨by omega, by omega⟩
      go_upto_region 8 with fail
      go_cut [33] (fun c33 wx => c33 = .bool false ∧ Hid (wx = wr))
      case first =>
        by_cases h1 : j < zs.length
        · have h2 : ¬ (j : Int) < 60 := fun h => hlt ⟨h1, by omega⟩
          go_wp2_with fail
          go_meet
          case rel => exact ⟨rfl, Lib.hid rfl⟩
        · have h2 : ¬ (j : Int) < (zs.length : Int) := by omega
          go_wp2_with fail
          go_meet
          case rel => exact ⟨rfl, Lib.hid rfl⟩
      case rest =>
        obtain ⟨rfl, HE⟩ := hcut
        have hE := HE.out
        subst hE
        have HFL := Lib.hid (flat HWh.out.2)
        have HHI := Lib.hid (B.high_le b)
        have HSZ := Lib.hid HWh.out.1.size
        have HZ : Hid (b.high = 0 ↔ b.keys.length = 0) := Lib.hid (by
          cases b with
          | L => exact ⟨fun _ => rfl, fun _ => rfl⟩
          | N i c v k => simp only [B.high, B.keys, List.length_append, List.length_cons]; omega)
        clear HE hcond hlt
        go_wp2_with fail
        refine HWA.out.mono ?_
        rintro e' w4 ⟨⟨vs, rfl, hK⟩, hb4⟩
        obtain ⟨a4, c4, rfl, hc4, -, -⟩ := hK
        have HTb4 := Lib.hid (HTb.out.below hb4 HTb.out.lt)
        have HNd4 := Lib.hid (HNd.out.below hb4)
        have HB4 := Lib.hid (bOnA HB.out hb4 (Nat.le_refl _))
        have HHE := Lib.hid (Height_at HNd4.out (t := t) (n := b.high) (.inl ⟨b, HWh.out.1, rfl⟩))
        unfold tv at HHE
        clear HWA hb4 HTb HNd HB x0 x1
        obtain ⟨x0, x1, -, -⟩ := HTb4.out.all
        have hc5 := hc4.2
        have hn64 : b.keys.length ≤ 64 := HSZ.out
        unfold maxLen at hc5
        clear hc4
        obtain ⟨n, hn⟩ : ∃ n, b.keys.length = n := ⟨_, rfl⟩
        obtain ⟨hh, hhh⟩ : ∃ n, b.high = n := ⟨_, rfl⟩
        rw [hn] at HFL HHI HZ hn64 ⊢
        rw [hhh] at HFL HHI HZ HHE
        clear hn hhh HSZ HWh
        go_wp2_with fail
        refine HHE.out.mono ?_
        rintro e' w5 ⟨rfl, hb5⟩
        have HB5 := Lib.hid (bOnA HB4.out hb5 (Nat.le_refl _))
        have hh64 : hh ≤ n := HHI.out
        clear HHE hb5 HTb4 HNd4 HB4 x0 x1
        obtain ⟨d, hd⟩ : ∃ d, hh / 2 = d := ⟨_, rfl⟩
        have hdI : (hh : Int) / 2 = (d : Int) := by omega
        have hdT : (hh : Int).tdiv 2 = (d : Int) := by rw [Int.tdiv_eq_ediv_of_nonneg (by omega)]; exact hdI
        rw [hd] at HFL
        have hd64 : d ≤ 32 := by omega
        clear hd
        go_upto_region 18 with fail
        go_loopw [15, 16] (fun l i wr => ∃ j x : Nat, j ≤ d ∧ x ≤ 65 ∧ l = .int .i64 x ∧ i = .int .i64 j ∧ Hid (x = 2 ^ j ∧ wr = w5)) (fun _ i _ => d - (intOf i).toNat)
        case atStart => exact ⟨0, 1, by omega, by omega, rfl, rfl, Lib.hid ⟨rfl, rfl⟩⟩
        case round =>
          obtain ⟨j2, x, hj2, hx65, rfl, rfl, HX⟩ := hrel
          obtain ⟨hxe, rfl⟩ := HX.out
          by_cases hl2 : j2 < d
          · have HNX : Hid (x * 2 = 2 ^ (j2 + 1)) := Lib.hid (by rw [hxe, Nat.pow_succ])
            have hx2 : x * 2 ≤ 65 := by
              have h1 := HNX.out
              have h2 := Nat.pow_le_pow_right (n := 2) (by omega) (show j2 + 1 ≤ d by omega)
              have h3 := HFL.out
              omega
            clear HX hxe
            go_wp2
            refine ⟨⟨j2 + 1, x * 2, by omega, hx2, by go_num, by go_num, Lib.hid ⟨HNX.out, by trivial⟩⟩, by simp [intOf]; omega⟩
          · obtain rfl : j2 = d := by omega
            have hle : x ≤ n + 1 := by rw [hxe]; exact HFL.out
            have HV : Hid ((decide (0 < hh) == decide (0 < n)) = true) := Lib.hid (by
              have h1 := HZ.out
              by_cases h0 : hh = 0
              · have := h1.1 h0; simp [h0, this]
              · have : n ≠ 0 := fun e => h0 (h1.2 e)
                have e1 : 0 < hh := by omega
                have e2 : 0 < n := by omega
                simp [e1, e2])
            clear HX hxe
            go_wp2
            go_ret
            refine ⟨?_, HB5.out⟩
            show Ending.returned (.bool (decide (0 < hh) == decide (0 < n))) = _
            rw [HV.out]

set_option maxRecDepth 100000 in
theorem lifted (os : Os) (started : os.Started) (H : Type) (enc : TypeId × Value → H) :
    ReturnsInHanded {} Try.checked os 7 .any (Rows.treeFlatSpec.pre6 enc Try.prog Try.f7 Rows.treeFlatRow.domain false) (Rows.treeFlatSpec.post enc Try.prog Try.f7 false true false false) := by
  refine returnsInHanded_of_change (C := Try.checked) own started (by kernel_rfl) Try.func7
    (ChangeSpec.witness6 (enc := enc) (C := Try.checked) false ⟨#[], #[.int .u64 0, .slice none 0 0], []⟩ 8 (by kernel_rfl) (by kernel_rfl) (by kernel_rfl) (by kernel_rfl)) ?_
  intro W base args ds gs before hval0 hW _ _
  have hval : ∀ (j : Nat) t v, Try.f7.params[j]? = some t → args[j]? = some v → Value.okWide Try.prog W .any base t v := hval0
  have hW' := hW
  obtain ⟨p, q, hA0, hV, rfl, -, -⟩ := hW
  have hA : DataW.TrodAll enc Try.prog W 0 (fun _ => true) true Try.f7.params.toList args.toList ds p := hA0
  rw [Try.params7] at hA hval
  obtain ⟨v0, vs0, d0, ds0, p0, q0, hargs, rfl, rfl, h0, r0⟩ := trodAll_cons hA
  obtain ⟨v1, vs1, d1, ds1, p1, q1, rfl, rfl, rfl, h1, r1⟩ := trodAll_cons r0
  obtain ⟨rfl, rfl, rfl⟩ := trodAll_nil r1
  obtain rfl : args = #[v0, v1] := by cases args; simp_all
  obtain ⟨rfl, rfl⟩ := trodVars_none hV
  obtain ⟨a0, rfl, rfl, rfl, w0⟩ := open_int Try.underlying25 (hval 0 25 v0 rfl rfl) h0
  obtain ⟨a1, w1⟩ := ints_arg Try.underlying44 Try.underlying45 (by kernel_rfl) (hval 1 44 v1 rfl rfl) h1
  clear hA0 hval0
  refine (walk a0 v1 a1 W w0 w1).mono fun e W' ⟨he, hb⟩ => ?_
  subst he
  exact ⟨_, rfl, post_law laidOut (by kernel_rfl) rfl (by kernel_rfl) Try.underlying4 hW' rfl hb⟩

/-- **TreeFlat**: the given statement. -/
theorem proved : Rows.TreeFlatSaid :=
  OpenClaim.holds_of_wide 7 Try.f7 rfl rfl rfl rfl rfl rfl rfl ⟨rfl, rfl, rfl, rfl, rfl⟩ rfl rfl rfl rfl rfl (by kernel_rfl) Try.func7 (by kernel_rfl)
    (of_decide_eq_true (by kernel_rfl)) (by unfold Func.isWrapper; first | (rw [if_pos (by decide +kernel)]; kernel_rfl) | (rw [if_neg (by decide +kernel)]; exact ⟨rfl, rfl⟩))
    (fun os started H enc _ => lifted os started H enc)
end Go.Proofs.Ytgjacmkedgbneaa.treeFlat
