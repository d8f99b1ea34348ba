/-
  The contract of turnspitref09's turn.
-/
import Derived.Test.YtgjacmkedgbneaaTyE
namespace Go.Proofs.Ytgjacmkedgbneaa
open Go.RowKit Go.Sort Ky Wd Tn Tr

set_option maxHeartbeats 4000000 in
set_option maxRecDepth 100000 in
theorem rturn_0 {W : World} {v : Value} {t : T} (hN : Nds W v t.ns) (hl : t.ns.length ≤ 1000) {x : Int} (hx : t.has x) (hu : t.ok (t.up x)) (hr : t.has (t.kid x true)) (hk : t.ok (t.kid (t.kid x true) false)) :
    Calls Try.prog 69 #[.agg #[.int .i64 t.root, v], .int .i64 x, .int .i64 0] W (Rt W v (t.turn x false)) := by
  obtain ⟨k, rfl, hkk⟩ := has_nat hx
  have HB := Lib.hid (Bx.start hN)
  have HX := Lib.hid hx
  have HU := Lib.hid hu
  have HR := Lib.hid hr
  have HK := Lib.hid hk
  obtain ⟨y, hy⟩ : ∃ y, t.kid k true = y := ⟨_, rfl⟩
  obtain ⟨z, hz⟩ : ∃ z, t.kid y false = z := ⟨_, rfl⟩
  obtain ⟨u, huu⟩ : ∃ u, t.up k = u := ⟨_, rfl⟩
  obtain ⟨t1, h1⟩ : ∃ t1, t.hang k true z = t1 := ⟨_, rfl⟩
  obtain ⟨t2, h2⟩ : ∃ t2, t1.hang u (t.side k) y = t2 := ⟨_, rfl⟩
  obtain ⟨t3, h3⟩ : ∃ t3, t2.hang y false k = t3 := ⟨_, rfl⟩
  have HT3 : Hid (t.turn k false = t3) := Lib.hid (by
    show ((t.hang k true (t.kid (t.kid k true) false)).hang (t.up k) (t.side k) (t.kid k true)).hang (t.kid k true) false k = t3
    rw [hy, hz, huu, h1, h2, h3])
  rw [HT3.out]
  rw [hy, hz] at HK
  rw [hy] at HR
  have H1 : Hid (t.hang k true z = t1 ∧ t1.hang u (t.side k) y = t2 ∧ t2.hang y false k = t3 ∧ t.kid k true = y ∧ t.kid y false = z ∧ t.up k = u) := Lib.hid ⟨h1, h2, h3, hy, hz, huu⟩
  have L1 : Hid (t1.ns.length = t.ns.length ∧ t2.ns.length = t.ns.length ∧ t3.ns.length = t.ns.length) := Lib.hid (by rw [← h3, hang_len, ← h2, hang_len, ← h1, hang_len]; exact ⟨rfl, rfl, rfl⟩)
  obtain ⟨a, cap, rfl, hc1, hc2⟩ := hN.len
  clear hN hy hz huu h1 h2 h3 hk hr hu HT3
  go_enter Try.func69, Try.ntmps69
  go_upto_region 1 with fail
  generalize (W.alloc (.cells #[.int .i64 t.root, .slice a t.ns.length cap] 24)).alloc (.cells #[.int .i64 0, .slice none 0 0] 24) = w1 at HB ⊢
  obtain ⟨x0, x1, -, -⟩ := HB.out.tb.all
  go_wp2_with fail
  refine (rkid_at HB.out.nd HX.out true).mono ?_
  rintro e' w2 ⟨rfl, hg2⟩
  rw [H1.out.2.2.2.1]
  have HB2 := Lib.hid (HB.out.gr hg2)
  clear x0 x1 HB hg2
  obtain ⟨x0, x1, -, -⟩ := HB2.out.tb.all
  obtain ⟨nb, off, cap', he, hc1, hc2, hnc⟩ := HB2.out.nd.at hkk
  simp only [Value.slice.injEq] at he
  obtain ⟨rfl, -, rfl⟩ := he
  have m5 := hnc.2.2.2.2.2
  have HM5 : Hid ((t.ns.getD k nE).u = u) := Lib.hid (by have := H1.out.2.2.2.2.2; unfold T.up T.nd at this; rw [Int.toNat_natCast] at this; exact this)
  rw [HM5.out] at m5
  clear HM5 hnc
  unfold maxLen at hc2
  go_wp2_with fail
  refine (rside_at HB2.out.nd HX.out HU.out).mono ?_
  rintro e' w3 ⟨rfl, hg3⟩
  have HB3 := Lib.hid (HB2.out.gr hg3)
  clear x0 x1 m5 HB2 hg3
  go_upto_region 4 with fail
  obtain ⟨x0, x1, x2, x3⟩ := HB3.out.tb.all
  have HKD := Lib.hid (rkid_at (W := w3.drew) (v := .slice (some ⟨nb, off, none⟩) t.ns.length cap) HB3.out.nd HR.out false)
  rw [H1.out.2.2.2.2.1] at HKD
  have HG : Hid (∀ X, Gr w3.drew X → Bx W X (.slice (some ⟨nb, off, none⟩) t.ns.length cap) t (.slice (some ⟨nb, off, none⟩) t.ns.length cap)) := Lib.hid (fun X hX => HB3.out.gr ((Gr.drew w3 1).trans hX))
  have HGC : Hid (∀ X, Gr w3.drew X → X.cell? ⟨W.heap.size, 0, none⟩ = some (.int .i64 t.root) ∧ X.cell? ⟨W.heap.size, 1, none⟩ = some (.slice (some ⟨nb, off, none⟩) t.ns.length cap)) := Lib.hid (fun X hX => ⟨(HG.out X hX).tb.all.1, (HG.out X hX).tb.all.2.1⟩)
  have HH : Hid (∀ X, Gr w3.drew X → Calls Try.prog 39 #[.agg #[.int .i64 t.root, .slice (some ⟨nb, off, none⟩) t.ns.length cap], .int .i64 k, .int .i64 1, .int .i64 z] X (Rt X (.slice (some ⟨nb, off, none⟩) t.ns.length cap) t1)) := Lib.hid (fun X hX => by
    have := rhang_at (HG.out X hX).nd hl (.inr HX.out) true HK.out
    rw [H1.out.1] at this
    exact this)
  have HU1 : Hid (t1.ok u ∧ t1.has y ∧ t1.ns.length ≤ 1000) := Lib.hid ⟨(ok_len L1.out.1).2 (H1.out.2.2.2.2.2 ▸ HU.out), (has_len L1.out.1).2 HR.out, by rw [L1.out.1]; exact hl⟩
  have HU2 : Hid (t2.has y ∧ t2.has k ∧ t2.ns.length ≤ 1000) := Lib.hid ⟨(has_len L1.out.2.1).2 HR.out, (has_len L1.out.2.1).2 HX.out, by rw [L1.out.2.1]; exact hl⟩
  have HRC : Hid (∀ X Y v', Gr w3.drew X → Nds Y v' t1.ns → Below X.heap.size X Y → (v' = .slice (some ⟨nb, off, none⟩) t.ns.length cap ∨ Fresh X.heap.size v') → Bx W ((Y.setCell ⟨W.heap.size, 0, none⟩ (.int .i64 t1.root)).setCell ⟨W.heap.size, 1, none⟩ v') (.slice (some ⟨nb, off, none⟩) t.ns.length cap) t1 v') := Lib.hid (fun X Y v' hX hNY hbY hdY => (HG.out X hX).rt hNY hbY hdY L1.out.1)
  have HRD : Hid (∀ X Y, Gr w3.drew X → Below X.heap.size X Y → Y.cell? ⟨W.heap.size, 0, none⟩ = some (.int .i64 t.root) ∧ Y.cell? ⟨W.heap.size, 1, none⟩ = some (.slice (some ⟨nb, off, none⟩) t.ns.length cap) ∧ Y.frozen? ⟨W.heap.size, 0, none⟩ = false ∧ Y.frozen? ⟨W.heap.size, 1, none⟩ = false) := Lib.hid (fun X Y hX hb => ((HG.out X hX).tb.below hb (HG.out X hX).tb.lt).all)
  clear HB3
  go_region_law (first
    | (go_simp; go_at_call 36; refine HKD.out.mono ?_; rintro e' w4 ⟨rfl, hg4⟩; obtain ⟨z0, z1⟩ := HGC.out _ hg4)
    | (go_simp; go_at_call 39; refine (HH.out _ hg4).mono ?_; rintro e' w5 ⟨v5, rfl, hN5, hb5, hd5⟩; obtain ⟨a5, c5, rfl, -, -⟩ := hN5.len; obtain ⟨y0, y1, y2, y3⟩ := HRD.out _ _ hg4 hb5))
  all_goals
    have HB5 := Lib.hid (HRC.out w4 w5 _ hg4 hN5 hb5 hd5)
    clear x0 x1 x2 x3 z0 z1 y0 y1 y2 y3 hN5 hb5 hd5 hg4 HKD HG HGC HH HRC HRD
    generalize (w5.setCell ⟨W.heap.size, 0, none⟩ (.int .i64 t1.root)).setCell ⟨W.heap.size, 1, none⟩ (.slice a5 t1.ns.length c5) = w6 at HB5 ⊢
    obtain ⟨x0, x1, x2, x3⟩ := HB5.out.tb.all
    go_wp2_with fail
    refine (rhang_at HB5.out.nd HU1.out.2.2 HU1.out.1 (t.side k) (.inr HU1.out.2.1)).mono ?_
    rintro e' w7 ⟨v7, rfl, hN7, hb7, hd7⟩
    rw [H1.out.2.1] at hN7 ⊢
    obtain ⟨a7, c7, rfl, -, -⟩ := hN7.len
    have HB8 := Lib.hid (HB5.out.rt hN7 hb7 hd7 (L1.out.2.1.trans L1.out.1.symm))
    obtain ⟨y0, y1, y2, y3⟩ := (HB5.out.tb.below hb7 HB5.out.tb.lt).all
    clear x0 x1 x2 x3 hN7 hb7 hd7 HB5
    go_upto_region 6 with fail
    clear y0 y1 y2 y3
    generalize (w7.setCell ⟨W.heap.size, 0, none⟩ (.int .i64 t2.root)).setCell ⟨W.heap.size, 1, none⟩ (.slice a7 t2.ns.length c7) = w8 at HB8 ⊢
    obtain ⟨x0, x1, x2, x3⟩ := HB8.out.tb.all
    go_wp2_with fail
    refine (rhang_at HB8.out.nd HU2.out.2.2 (.inr HU2.out.1) false (.inr HU2.out.2.1)).mono ?_
    rintro e' w9 ⟨v9, rfl, hN9, hb9, hd9⟩
    rw [H1.out.2.2.1] at hN9 ⊢
    obtain ⟨a9, c9, rfl, -, -⟩ := hN9.len
    have HF := Lib.hid (HB8.out.finRt hN9 hb9 hd9 (L1.out.2.2.trans L1.out.2.1.symm))
    obtain ⟨y0, y1, y2, y3⟩ := (HB8.out.rb.below hb9 HB8.out.rb.lt).all
    clear x0 x1 x2 x3 hN9 hb9 hd9 HB8
    go_wp2
    obtain ⟨z0, z1, -, -⟩ := HF.out.rb.all
    exact bodyPost_ret (v := .agg #[.int .i64 t3.root, .slice a9 t3.ns.length c9]) (by simp [results, Try.results69, go_sem, z0, z1]) rfl ⟨_, rfl, HF.out.nd, HF.out.bl, HF.out.dj⟩

set_option maxHeartbeats 4000000 in
set_option maxRecDepth 100000 in
theorem rturn_1 {W : World} {v : Value} {t : T} (hN : Nds W v t.ns) (hl : t.ns.length ≤ 1000) {x : Int} (hx : t.has x) (hu : t.ok (t.up x)) (hr : t.has (t.kid x false)) (hk : t.ok (t.kid (t.kid x false) true)) :
    Calls Try.prog 69 #[.agg #[.int .i64 t.root, v], .int .i64 x, .int .i64 1] W (Rt W v (t.turn x true)) := by
  obtain ⟨k, rfl, hkk⟩ := has_nat hx
  have HB := Lib.hid (Bx.start hN)
  have HX := Lib.hid hx
  have HU := Lib.hid hu
  have HR := Lib.hid hr
  have HK := Lib.hid hk
  obtain ⟨y, hy⟩ : ∃ y, t.kid k false = y := ⟨_, rfl⟩
  obtain ⟨z, hz⟩ : ∃ z, t.kid y true = z := ⟨_, rfl⟩
  obtain ⟨u, huu⟩ : ∃ u, t.up k = u := ⟨_, rfl⟩
  obtain ⟨t1, h1⟩ : ∃ t1, t.hang k false z = t1 := ⟨_, rfl⟩
  obtain ⟨t2, h2⟩ : ∃ t2, t1.hang u (t.side k) y = t2 := ⟨_, rfl⟩
  obtain ⟨t3, h3⟩ : ∃ t3, t2.hang y true k = t3 := ⟨_, rfl⟩
  have HT3 : Hid (t.turn k true = t3) := Lib.hid (by
    show ((t.hang k false (t.kid (t.kid k false) true)).hang (t.up k) (t.side k) (t.kid k false)).hang (t.kid k false) true k = t3
    rw [hy, hz, huu, h1, h2, h3])
  rw [HT3.out]
  rw [hy, hz] at HK
  rw [hy] at HR
  have H1 : Hid (t.hang k false z = t1 ∧ t1.hang u (t.side k) y = t2 ∧ t2.hang y true k = t3 ∧ t.kid k false = y ∧ t.kid y true = z ∧ t.up k = u) := Lib.hid ⟨h1, h2, h3, hy, hz, huu⟩
  have L1 : Hid (t1.ns.length = t.ns.length ∧ t2.ns.length = t.ns.length ∧ t3.ns.length = t.ns.length) := Lib.hid (by rw [← h3, hang_len, ← h2, hang_len, ← h1, hang_len]; exact ⟨rfl, rfl, rfl⟩)
  obtain ⟨a, cap, rfl, hc1, hc2⟩ := hN.len
  clear hN hy hz huu h1 h2 h3 hk hr hu HT3
  go_enter Try.func69, Try.ntmps69
  go_upto_region 1 with fail
  generalize (W.alloc (.cells #[.int .i64 t.root, .slice a t.ns.length cap] 24)).alloc (.cells #[.int .i64 0, .slice none 0 0] 24) = w1 at HB ⊢
  obtain ⟨x0, x1, -, -⟩ := HB.out.tb.all
  go_wp2_with fail
  refine (rkid_at HB.out.nd HX.out false).mono ?_
  rintro e' w2 ⟨rfl, hg2⟩
  rw [H1.out.2.2.2.1]
  have HB2 := Lib.hid (HB.out.gr hg2)
  clear x0 x1 HB hg2
  obtain ⟨x0, x1, -, -⟩ := HB2.out.tb.all
  obtain ⟨nb, off, cap', he, hc1, hc2, hnc⟩ := HB2.out.nd.at hkk
  simp only [Value.slice.injEq] at he
  obtain ⟨rfl, -, rfl⟩ := he
  have m5 := hnc.2.2.2.2.2
  have HM5 : Hid ((t.ns.getD k nE).u = u) := Lib.hid (by have := H1.out.2.2.2.2.2; unfold T.up T.nd at this; rw [Int.toNat_natCast] at this; exact this)
  rw [HM5.out] at m5
  clear HM5 hnc
  unfold maxLen at hc2
  go_wp2_with fail
  refine (rside_at HB2.out.nd HX.out HU.out).mono ?_
  rintro e' w3 ⟨rfl, hg3⟩
  have HB3 := Lib.hid (HB2.out.gr hg3)
  clear x0 x1 m5 HB2 hg3
  go_upto_region 4 with fail
  obtain ⟨x0, x1, x2, x3⟩ := HB3.out.tb.all
  have HKD := Lib.hid (rkid_at (W := w3.drew) (v := .slice (some ⟨nb, off, none⟩) t.ns.length cap) HB3.out.nd HR.out true)
  rw [H1.out.2.2.2.2.1] at HKD
  have HG : Hid (∀ X, Gr w3.drew X → Bx W X (.slice (some ⟨nb, off, none⟩) t.ns.length cap) t (.slice (some ⟨nb, off, none⟩) t.ns.length cap)) := Lib.hid (fun X hX => HB3.out.gr ((Gr.drew w3 1).trans hX))
  have HGC : Hid (∀ X, Gr w3.drew X → X.cell? ⟨W.heap.size, 0, none⟩ = some (.int .i64 t.root) ∧ X.cell? ⟨W.heap.size, 1, none⟩ = some (.slice (some ⟨nb, off, none⟩) t.ns.length cap)) := Lib.hid (fun X hX => ⟨(HG.out X hX).tb.all.1, (HG.out X hX).tb.all.2.1⟩)
  have HH : Hid (∀ X, Gr w3.drew X → Calls Try.prog 39 #[.agg #[.int .i64 t.root, .slice (some ⟨nb, off, none⟩) t.ns.length cap], .int .i64 k, .int .i64 0, .int .i64 z] X (Rt X (.slice (some ⟨nb, off, none⟩) t.ns.length cap) t1)) := Lib.hid (fun X hX => by
    have := rhang_at (HG.out X hX).nd hl (.inr HX.out) false HK.out
    rw [H1.out.1] at this
    exact this)
  have HU1 : Hid (t1.ok u ∧ t1.has y ∧ t1.ns.length ≤ 1000) := Lib.hid ⟨(ok_len L1.out.1).2 (H1.out.2.2.2.2.2 ▸ HU.out), (has_len L1.out.1).2 HR.out, by rw [L1.out.1]; exact hl⟩
  have HU2 : Hid (t2.has y ∧ t2.has k ∧ t2.ns.length ≤ 1000) := Lib.hid ⟨(has_len L1.out.2.1).2 HR.out, (has_len L1.out.2.1).2 HX.out, by rw [L1.out.2.1]; exact hl⟩
  have HRC : Hid (∀ X Y v', Gr w3.drew X → Nds Y v' t1.ns → Below X.heap.size X Y → (v' = .slice (some ⟨nb, off, none⟩) t.ns.length cap ∨ Fresh X.heap.size v') → Bx W ((Y.setCell ⟨W.heap.size, 0, none⟩ (.int .i64 t1.root)).setCell ⟨W.heap.size, 1, none⟩ v') (.slice (some ⟨nb, off, none⟩) t.ns.length cap) t1 v') := Lib.hid (fun X Y v' hX hNY hbY hdY => (HG.out X hX).rt hNY hbY hdY L1.out.1)
  have HRD : Hid (∀ X Y, Gr w3.drew X → Below X.heap.size X Y → Y.cell? ⟨W.heap.size, 0, none⟩ = some (.int .i64 t.root) ∧ Y.cell? ⟨W.heap.size, 1, none⟩ = some (.slice (some ⟨nb, off, none⟩) t.ns.length cap) ∧ Y.frozen? ⟨W.heap.size, 0, none⟩ = false ∧ Y.frozen? ⟨W.heap.size, 1, none⟩ = false) := Lib.hid (fun X Y hX hb => ((HG.out X hX).tb.below hb (HG.out X hX).tb.lt).all)
  clear HB3
  go_region_law (first
    | (go_simp; go_at_call 36; refine HKD.out.mono ?_; rintro e' w4 ⟨rfl, hg4⟩; obtain ⟨z0, z1⟩ := HGC.out _ hg4)
    | (go_simp; go_at_call 39; refine (HH.out _ hg4).mono ?_; rintro e' w5 ⟨v5, rfl, hN5, hb5, hd5⟩; obtain ⟨a5, c5, rfl, -, -⟩ := hN5.len; obtain ⟨y0, y1, y2, y3⟩ := HRD.out _ _ hg4 hb5))
  all_goals
    have HB5 := Lib.hid (HRC.out w4 w5 _ hg4 hN5 hb5 hd5)
    clear x0 x1 x2 x3 z0 z1 y0 y1 y2 y3 hN5 hb5 hd5 hg4 HKD HG HGC HH HRC HRD
    generalize (w5.setCell ⟨W.heap.size, 0, none⟩ (.int .i64 t1.root)).setCell ⟨W.heap.size, 1, none⟩ (.slice a5 t1.ns.length c5) = w6 at HB5 ⊢
    obtain ⟨x0, x1, x2, x3⟩ := HB5.out.tb.all
    go_wp2_with fail
    refine (rhang_at HB5.out.nd HU1.out.2.2 HU1.out.1 (t.side k) (.inr HU1.out.2.1)).mono ?_
    rintro e' w7 ⟨v7, rfl, hN7, hb7, hd7⟩
    rw [H1.out.2.1] at hN7 ⊢
    obtain ⟨a7, c7, rfl, -, -⟩ := hN7.len
    have HB8 := Lib.hid (HB5.out.rt hN7 hb7 hd7 (L1.out.2.1.trans L1.out.1.symm))
    obtain ⟨y0, y1, y2, y3⟩ := (HB5.out.tb.below hb7 HB5.out.tb.lt).all
    clear x0 x1 x2 x3 hN7 hb7 hd7 HB5
    go_upto_region 6 with fail
    clear y0 y1 y2 y3
    generalize (w7.setCell ⟨W.heap.size, 0, none⟩ (.int .i64 t2.root)).setCell ⟨W.heap.size, 1, none⟩ (.slice a7 t2.ns.length c7) = w8 at HB8 ⊢
    obtain ⟨x0, x1, x2, x3⟩ := HB8.out.tb.all
    go_wp2_with fail
    refine (rhang_at HB8.out.nd HU2.out.2.2 (.inr HU2.out.1) true (.inr HU2.out.2.1)).mono ?_
    rintro e' w9 ⟨v9, rfl, hN9, hb9, hd9⟩
    rw [H1.out.2.2.1] at hN9 ⊢
    obtain ⟨a9, c9, rfl, -, -⟩ := hN9.len
    have HF := Lib.hid (HB8.out.finRt hN9 hb9 hd9 (L1.out.2.2.trans L1.out.2.1.symm))
    obtain ⟨y0, y1, y2, y3⟩ := (HB8.out.rb.below hb9 HB8.out.rb.lt).all
    clear x0 x1 x2 x3 hN9 hb9 hd9 HB8
    go_wp2
    obtain ⟨z0, z1, -, -⟩ := HF.out.rb.all
    exact bodyPost_ret (v := .agg #[.int .i64 t3.root, .slice a9 t3.ns.length c9]) (by simp [results, Try.results69, go_sem, z0, z1]) rfl ⟨_, rfl, HF.out.nd, HF.out.bl, HF.out.dj⟩

theorem rturn_at {W : World} {v : Value} {t : T} (hN : Nds W v t.ns) (hl : t.ns.length ≤ 1000) {x : Int} (s : Bool) (hx : t.has x) (hu : t.ok (t.up x)) (hr : t.has (t.kid x (!s))) (hk : t.ok (t.kid (t.kid x (!s)) s)) :
    Calls Try.prog 69 #[.agg #[.int .i64 t.root, v], .int .i64 x, .int .i64 (sI s)] W (Rt W v (t.turn x s)) := by
  cases s with
  | false => exact rturn_0 hN hl hx hu hr hk
  | true => exact rturn_1 hN hl hx hu hr hk
end Go.Proofs.Ytgjacmkedgbneaa
