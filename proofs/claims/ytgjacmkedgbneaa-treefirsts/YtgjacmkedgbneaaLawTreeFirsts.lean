/-
  TreeFirsts returns true at every input, and turns nothing that was there: the first one is the first one of the walk; taken out, again and again, all are come by in the walk's order.
-/
import Derived.Test.YtgjacmkedgbneaaTyU
namespace Go.Proofs.Ytgjacmkedgbneaa.treeFirsts
open Go.ChangeShapes Go.WideShapes Go.ChangeAt Go.RowKit Go.Sort Wd Tn Ky Tr

theorem Keys_other {w : World} {v : Value} {l : List K} {q o n c : Nat} {x : Int} {a : Option Addr} {ty : TypeId} {y : Value} (h : Keys w v l) (hT : Tb w q x (.slice a n c) ty) : Keys (w.setCell ⟨q, o, none⟩ y) v l := by
  obtain ⟨a', cap, rfl, hm, hw, hc⟩ := h
  refine ⟨a', cap, rfl, hm, hw, fun hz => ?_⟩
  obtain ⟨b, off, rfl, hc2⟩ := hc hz
  have hne : b ≠ q := by
    rintro rfl
    have h0 := (hc2 0 (List.length_pos_iff.2 hz)).1
    have hT' : w.heap[b]? = _ := hT
    simp only [World.cell?, hT'] at h0
    rcases (show off + 0 * 2 = 0 ∨ off + 0 * 2 = 1 ∨ 2 ≤ off + 0 * 2 by omega) with e | e | e
    · rw [e] at h0; simp at h0
    · rw [e] at h0; simp at h0
    · rw [Array.getElem?_eq_none (by simpa using e)] at h0; cases h0
  refine ⟨b, off, rfl, fun i hi => ?_⟩
  have e : ∀ k, (w.setCell ⟨q, o, none⟩ y).cell? ⟨b, k, none⟩ = w.cell? ⟨b, k, none⟩ := fun k => by
    unfold World.cell?
    rw [Below.heap_setCell _ _ _ _ (show b ≠ (⟨q, o, none⟩ : Addr).block from hne)]
  rw [e, e]
  exact hc2 i hi
theorem keys_nil {b : B} (h : b.keys = []) : b = .L := by
  cases b with
  | L => rfl
  | N i c v k => simp [B.keys] at h
/-- The first one is taken out. -/
theorem del_first {m : Int} {t : T} {b : B} {k : K} {r : List K} (hw : Whole t b) (hr : RightB m b) (hk : b.keys = k :: r) : t.has k.2 ∧ ∃ (t' : T) (b' : B), Del m k.2 t t' 0 ∧ Whole t' b' ∧ RightB m b' ∧ b'.keys = r := by
  have hmem : k.2 ∈ b.ids := by rw [ids_keys, hk]; simp
  have hh := hw.sub.has _ hmem
  obtain ⟨t', b', h1, h2, h3, l, v, r', k1, k2⟩ := del_all hw hr hh.1 hh.2
  refine ⟨hh.1, t', b', .done ⟨b, hw, hr⟩ hh.1 hh.2 t' h1, h2, h3, ?_⟩
  have hn := hw.nod
  rw [ids_keys, k1] at hn
  rw [hk] at k1
  cases l with
  | nil =>
    simp only [List.nil_append, List.cons.injEq] at k1
    rw [k2, k1.2]
    rfl
  | cons x l =>
    simp only [List.cons_append, List.cons.injEq] at k1
    rw [← k1.1] at hn
    simp at hn
/-- What stands at a round's beginning. -/
def St (m : Int) (W wr : World) (q : Nat) (vs : Value) (L : List K) (j : Nat) : Prop :=
  ∃ (t : T) (b : B) (a : Option Addr) (c : Nat), t.ns.length = 24 ∧ Tb wr q t.root (.slice a 24 c) 24 ∧ Nds wr (.slice a 24 c) t.ns ∧ Whole t b ∧ RightB m b ∧ b.keys = L.drop j ∧ Keys wr vs L ∧ Below W.heap.size W wr

set_option maxHeartbeats 4000000 in
set_option maxRecDepth 100000 in
theorem walk (m : Int) (vl : Value) (zs : List Int) (W : World) (_hm : (Lit.int .u64 m).wf = true) (hl : Ints .u16 W vl zs) :
    Calls Try.prog 8 #[.int .u64 m, vl] W fun e w' => e = .returned (.bool true) ∧ Below W.heap.size W w' := by
  have HL := Lib.hid hl
  obtain ⟨al, cl, rfl, hmx, -, -⟩ := hl
  unfold maxLen at hmx
  have HAW := Lib.hid (awake_at W)
  go_enter Try.func8, Try.ntmps8
  go_wp2_with fail
  refine HAW.out.mono ?_
  rintro e' w1 ⟨rfl, hb1⟩
  have HB1 := Lib.hid hb1
  have HMD := Lib.hid (Made_at m _ zs w1 (HL.out.below hb1))
  clear HAW hb1
  go_wp2_with fail
  refine HMD.out.mono ?_
  rintro e' w2 ⟨t, b, v2, rfl, ht24, hn2, hW, hR, hb2⟩
  obtain ⟨a2, c2, rfl, -, -⟩ := hn2.len
  rw [ht24] at hn2 ⊢
  have HX2 := Lib.hid ((Below.refl w2.heap.size w2).alloc (Nat.le_refl _) (.cells #[.int .i64 t.root, .slice a2 24 c2] 24))
  have HB2 := Lib.hid (bOnA (bOnA HB1.out hb2 (Nat.le_refl _)) HX2.out (Nat.le_refl _))
  have HT2 := Lib.hid (Tb.new w2 t.root (.slice a2 24 c2) 24)
  have HN2 := Lib.hid (hn2.below HX2.out)
  have HQ2 : Hid (W.heap.size ≤ w2.heap.size) := Lib.hid (Nat.le_trans HB1.out.size hb2.size)
  have HWR := Lib.hid (And.intro hW hR)
  have H24 := Lib.hid ht24
  clear HMD hn2 hb2 HX2 HB1 hW hR ht24
  go_upto_region 5 with fail
  generalize w2.heap.size = q at HT2 HQ2 ⊢
  generalize w2.alloc (.cells #[.int .i64 t.root, .slice a2 24 c2] 24) = w3 at HT2 HN2 HB2 ⊢
  obtain ⟨x0, x1, -, -⟩ := HT2.out.all
  have HWK := Lib.hid (Walk_at HN2.out (l := b.keys) (.inl ⟨b, HWR.out.1, rfl⟩))
  unfold tv at HWK
  go_wp2_with fail
  refine HWK.out.mono ?_
  rintro e' w4 ⟨⟨vs, rfl, hK⟩, hb4⟩
  obtain ⟨L, hL⟩ : ∃ L, b.keys = L := ⟨_, rfl⟩
  rw [hL] at hK
  have HLN : Hid (L.length ≤ 64) := Lib.hid (by rw [← hL]; exact HWR.out.1.size)
  obtain ⟨av, cv, rfl⟩ : ∃ av cv, vs = .slice av L.length cv := ⟨_, _, hK.choose_spec.choose_spec.1⟩
  have HST : Hid (St m W w4 q (.slice av L.length cv) L 0) := Lib.hid ⟨t, b, a2, c2, H24.out, HT2.out.below hb4 HT2.out.lt, HN2.out.below hb4, HWR.out.1, HWR.out.2, by rw [hL]; rfl, hK, bOnA HB2.out hb4 (Nat.le_refl _)⟩
  clear HWK hK hb4 hL x0 x1 HT2 HN2 HB2 HWR H24
  go_upto_region 7 with fail
  go_loopg [8] L.length (fun gk i wr => ∃ j : Nat, j + gk = L.length ∧ i = .int .i64 j ∧ Hid (St m W wr q (.slice av L.length cv) L j))
  case atStart => exact ⟨0, by omega, rfl, HST⟩
  case round =>
    obtain ⟨j, hj, rfl, HJ⟩ := hrel
    clear HST
    obtain ⟨t, b, a, c, ht24, hTb, hNd, hW, hR, hk, hKy, hB⟩ := HJ.out
    have H24 := Lib.hid ht24
    have HTb := Lib.hid hTb
    have HNd := Lib.hid hNd
    have HWR := Lib.hid (And.intro hW hR)
    have HK := Lib.hid hk
    have HKy := Lib.hid hKy
    have HB := Lib.hid hB
    clear HJ ht24 hTb hNd hW hR hk hKy hB
    obtain ⟨x0, x1, -, -⟩ := HTb.out.all
    have hj64 : j ≤ 64 := by have := HLN.out; omega
    have hL64 : L.length ≤ 64 := HLN.out
    by_cases hlt : j < L.length
    · obtain ⟨ky, hky⟩ : ∃ ky, L.getD j (0, 0) = ky := ⟨_, rfl⟩
      have hdr : b.keys = ky :: L.drop (j + 1) := by
        rw [HK.out, List.drop_eq_getElem_cons hlt, ← hky]
        simp [List.getD, hlt]
      have HFS := Lib.hid (First_at HNd.out (l := b.keys) (.inl ⟨b, HWR.out.1, rfl⟩))
      rw [hdr] at HFS
      unfold tv at HFS
      change Hid (Calls Try.prog _ _ _ fun e w' => e = .returned (.tuple #[.agg #[.int .u64 ky.1, .int .i64 ky.2], .bool true]) ∧ _) at HFS
      obtain ⟨hhas, t', b', hD, hW', hR', hk'⟩ := del_first HWR.out.1 HWR.out.2 hdr
      have HD := Lib.hid hD
      have HL' : Hid (t'.ns.length = 24) := Lib.hid ((Del.len hD).trans H24.out)
      have HN' := Lib.hid (And.intro hW' (And.intro hR' hk'))
      have HKI : Hid (Kin ky) := Lib.hid (HKy.out.kin ky (by rw [← hky]; simp [List.getD, hlt]))
      have hjl : (j : Int) < (L.length : Int) := by omega
      clear hdr hhas hD hW' hR' hk'
      go_wp2_with fail
      refine HFS.out.mono ?_
      rintro e' w5 ⟨rfl, hb5⟩
      have HX5 := Lib.hid (hb5.alloc hb5.size (.cells #[.int .u64 ky.1, .int .i64 ky.2] 27))
      have HKB := Lib.hid (Kb.new w5 ky)
      have HTb5 := Lib.hid (HTb.out.below HX5.out HTb.out.lt)
      have HNd5 := Lib.hid (HNd.out.below HX5.out)
      have HKy5 := Lib.hid (HKy.out.below HX5.out)
      have HB5 := Lib.hid (bOnA HB.out HX5.out (Nat.le_refl _))
      clear HFS hb5 HX5 HTb HNd HKy HB x0 x1
      go_upto_region 10 with fail
      generalize w5.heap.size = qk at HKB ⊢
      generalize w5.alloc (.cells #[.int .u64 ky.1, .int .i64 ky.2] 27) = w6 at HKB HTb5 HNd5 HKy5 HB5 ⊢
      obtain ⟨k0, k1, -, -, -⟩ := HKB.out.all
      obtain ⟨x0, x1, -, -⟩ := HTb5.out.all
      have HDE := Lib.hid (Delete_s HNd5.out HD.out)
      rw [HL'.out] at HDE
      go_wp2_with fail
      refine HDE.out.mono ?_
      rintro e' w7 ⟨a7, c7, rfl, hn7, hb7⟩
      have HA7 := Lib.hid ((Below.refl w7.heap.size w7).alloc (Nat.le_refl _) (.cells #[.int .i64 t'.root, .slice a7 24 c7] 24))
      have HX7 := Lib.hid (hb7.alloc hb7.size (.cells #[.int .i64 t'.root, .slice a7 24 c7] 24))
      have HTD := Lib.hid (Tb.new w7 t'.root (.slice a7 24 c7) 24)
      have HND := Lib.hid (hn7.below HA7.out)
      have HTb7 := Lib.hid (HTb5.out.below HX7.out HTb5.out.lt)
      have HKy7 := Lib.hid (HKy5.out.below HX7.out)
      have HKB7 := Lib.hid (HKB.out.below HX7.out HKB.out.lt)
      have HB7 := Lib.hid (bOnA HB5.out HX7.out (Nat.le_refl _))
      have HQD : Hid (W.heap.size ≤ q ∧ q < w7.heap.size) := Lib.hid ⟨HQ2.out, Nat.lt_of_lt_of_le HTb5.out.lt hb7.size⟩
      clear HDE hn7 hb7 HA7 HX7 HTb5 HNd5 HKy5 HKB HB5 k0 k1 x0 x1
      go_upto_region 11 with fail
      generalize w7.heap.size = qd at HTD HQD ⊢
      generalize w7.alloc (.cells #[.int .i64 t'.root, .slice a7 24 c7] 24) = w8 at HTD HND HTb7 HKy7 HKB7 HB7 ⊢
      rcases HKy7.out.parts with ⟨h0, -⟩ | ⟨hp, nb, off, cap, hv, -, -, hc⟩
      · rw [h0] at hlt; simp at hlt
      · simp only [Value.slice.injEq] at hv
        obtain ⟨rfl, -, rfl⟩ := hv
        obtain ⟨d0, d1⟩ := hc j hlt
        rw [hky] at d0 d1
        obtain ⟨k0, k1, -, -, -⟩ := HKB7.out.all
        have e1 : (ky.1 == ky.1) = true := by simp
        have e2 : (ky.2 == ky.2) = true := by simp
        clear hc hky hp
        go_wp2_with fail
        go_quiet (fail)
        have HTD9 := Lib.hid (HTD.out.below (Gr.drew _ nq).below HTD.out.lt)
        have HND9 := Lib.hid (HND.out.below (Gr.drew _ nq).below)
        have HTb9 := Lib.hid (HTb7.out.below (Gr.drew _ nq).below HTb7.out.lt)
        have HKy9 := Lib.hid (HKy7.out.below (Gr.drew _ nq).below)
        have HB9 := Lib.hid (bOnA HB7.out (Gr.drew _ nq).below (Nat.le_refl _))
        clear d0 d1 k0 k1 HTD HND HTb7 HKy7 HKB7 HB7
        generalize w8.drewN nq = w9 at HTD9 HND9 HTb9 HKy9 HB9 ⊢
        obtain ⟨x0, x1, -, -⟩ := HTD9.out.all
        obtain ⟨y0, y1, y2, y3⟩ := HTb9.out.all
        have HEND : Hid (St m W ((w9.setCell ⟨q, 0, none⟩ (.int .i64 t'.root)).setCell ⟨q, 1, none⟩ (.slice a7 24 c7)) q (.slice (some ⟨nb, off, none⟩) L.length cv) L (j + 1)) := Lib.hid (by
          have hq := HQD.out
          exact ⟨t', b', a7, c7, HL'.out, HTb9.out.store _ _, HND9.out.stored HTb9.out, HN'.out.1, HN'.out.2.1, HN'.out.2.2, Keys_other (Keys_other HKy9.out HTb9.out) (HTb9.out.storeR _), (HB9.out.setCell (p := ⟨q, 0, none⟩) (by show W.heap.size ≤ q; omega) _).setCell (p := ⟨q, 1, none⟩) (by show W.heap.size ≤ q; omega) _⟩)
        clear HTD9 HND9 HTb9 HKy9 HB9
        go_wp2
        go_roundg (L.length - (j + 1))
        case measure => omega
        case rel => exact ⟨j + 1, by omega, by go_num, HEND⟩
    · obtain rfl : j = L.length := by omega
      have hkn : b.keys = [] := by rw [HK.out, List.drop_length]
      have hbl := keys_nil hkn
      have HRT : Hid (t.root = -1) := Lib.hid (by rw [HWR.out.1.root, hbl]; rfl)
      have HFS := Lib.hid (First_at HNd.out (l := b.keys) (.inl ⟨b, HWR.out.1, rfl⟩))
      rw [hkn] at HFS
      unfold tv at HFS
      change Hid (Calls Try.prog _ _ _ fun e w' => e = .returned (.tuple #[.agg #[.int .u64 0, .int .i64 0], .bool false]) ∧ _) at HFS
      have HHT : Hid (∀ X, Nds X (.slice a 24 c) t.ns → Calls Try.prog 23 #[.agg #[.int .i64 t.root, .slice a 24 c]] X fun e w' => e = .returned (.int .i64 0) ∧ Below X.heap.size X w') := Lib.hid (fun X hX => Height_at hX (n := 0) (.inl ⟨b, HWR.out.1, by rw [hbl]; rfl⟩))
      rw [HRT.out] at HFS x0 HHT HTb
      clear hkn hbl
      go_wp2_with fail
      refine HFS.out.mono ?_
      rintro e' w5 ⟨rfl, hb5⟩
      have HX5 := Lib.hid (hb5.alloc hb5.size (.cells #[.int .u64 0, .int .i64 0] 27))
      have HTb5 := Lib.hid (HTb.out.below HX5.out HTb.out.lt)
      have HNd5 := Lib.hid (HNd.out.below HX5.out)
      have HB5 := Lib.hid (bOnA HB.out HX5.out (Nat.le_refl _))
      clear HFS hb5 HX5 HTb HNd HB x0 x1
      go_upto_region 15 with fail
      generalize w5.alloc (.cells #[.int .u64 0, .int .i64 0] 27) = w6 at HTb5 HNd5 HB5 ⊢
      obtain ⟨x0, x1, -, -⟩ := HTb5.out.all
      go_wp2_with fail
      refine (HHT.out _ HNd5.out).mono ?_
      rintro e' w7 ⟨rfl, hb7⟩
      have HF := Lib.hid (bOnA HB5.out hb7 (Nat.le_refl _))
      clear hb7 x0 x1
      go_wp2
      go_ret
      exact ⟨rfl, HF.out⟩

set_option maxRecDepth 100000 in
theorem lifted (os : Os) (started : os.Started) (H : Type) (enc : TypeId × Value → H) :
    ReturnsInHanded {} Try.checked os 8 .any (Rows.treeFirstsSpec.pre6 enc Try.prog Try.f8 Rows.treeFirstsRow.domain false) (Rows.treeFirstsSpec.post enc Try.prog Try.f8 false true false false) := by
  refine returnsInHanded_of_change (C := Try.checked) own started (by kernel_rfl) Try.func8
    (ChangeSpec.witness6 (enc := enc) (C := Try.checked) false ⟨#[], #[.int .u64 0, .slice none 0 0], []⟩ 8 (by kernel_rfl) (by kernel_rfl) (by kernel_rfl) (by kernel_rfl)) ?_
  intro W base args ds gs before hval0 hW _ _
  have hval : ∀ (j : Nat) t v, Try.f8.params[j]? = some t → args[j]? = some v → Value.okWide Try.prog W .any base t v := hval0
  have hW' := hW
  obtain ⟨p, q, hA0, hV, rfl, -, -⟩ := hW
  have hA : DataW.TrodAll enc Try.prog W 0 (fun _ => true) true Try.f8.params.toList args.toList ds p := hA0
  rw [Try.params8] at hA hval
  obtain ⟨v0, vs0, d0, ds0, p0, q0, hargs, rfl, rfl, h0, r0⟩ := trodAll_cons hA
  obtain ⟨v1, vs1, d1, ds1, p1, q1, rfl, rfl, rfl, h1, r1⟩ := trodAll_cons r0
  obtain ⟨rfl, rfl, rfl⟩ := trodAll_nil r1
  obtain rfl : args = #[v0, v1] := by cases args; simp_all
  obtain ⟨rfl, rfl⟩ := trodVars_none hV
  obtain ⟨a0, rfl, rfl, rfl, w0⟩ := open_int Try.underlying25 (hval 0 25 v0 rfl rfl) h0
  obtain ⟨a1, w1⟩ := ints_arg Try.underlying44 Try.underlying45 (by kernel_rfl) (hval 1 44 v1 rfl rfl) h1
  clear hA0 hval0
  refine (walk a0 v1 a1 W w0 w1).mono fun e W' ⟨he, hb⟩ => ?_
  subst he
  exact ⟨_, rfl, post_law laidOut (by kernel_rfl) rfl (by kernel_rfl) Try.underlying4 hW' rfl hb⟩

/-- **TreeFirsts**: the given statement. -/
theorem proved : Rows.TreeFirstsSaid :=
  OpenClaim.holds_of_wide 8 Try.f8 rfl rfl rfl rfl rfl rfl rfl ⟨rfl, rfl, rfl, rfl, rfl⟩ rfl rfl rfl rfl rfl (by kernel_rfl) Try.func8 (by kernel_rfl)
    (of_decide_eq_true (by kernel_rfl)) (by unfold Func.isWrapper; first | (rw [if_pos (by decide +kernel)]; kernel_rfl) | (rw [if_neg (by decide +kernel)]; exact ⟨rfl, rfl⟩))
    (fun os started H enc _ => lifted os started H enc)
end Go.Proofs.Ytgjacmkedgbneaa.treeFirsts
