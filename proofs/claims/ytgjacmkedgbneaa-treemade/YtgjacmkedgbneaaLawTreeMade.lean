/-
  TreeMade returns true at every input, and turns nothing that was there: trees that are made by keys put in and taken out, each of them, are what the document says.
-/
import Derived.Test.YtgjacmkedgbneaaTyU
import Derived.Deep.RegionHeld3
namespace Go.Proofs.Ytgjacmkedgbneaa.treeMade
open Go.ChangeShapes Go.WideShapes Go.ChangeAt Go.RowKit Go.Sort Wd Tn Ky Tr

set_option maxHeartbeats 8000000 in
set_option maxRecDepth 100000 in
theorem walk (m : Int) (vl : Value) (zs : List Int) (n : Int) (W : World) (_hm : (Lit.int .u64 m).wf = true) (hl : Ints .u16 W vl zs) (hn : (Lit.int .u16 n).wf = true) :
    Calls Try.prog 5 #[.int .u64 m, vl, .int .u16 n] W fun e w' => e = .returned (.bool true) ∧ Below W.heap.size W w' := by
  have HMD := Lib.hid (Made_at m _ zs W hl)
  obtain ⟨al, cl, rfl, -, -, -⟩ := hl
  have hzb : 0 ≤ n ∧ n < 65536 := by have := bounds_u16 hn; omega
  have HOP : Hid (∀ X, Calls Try.prog 28 #[.int .u64 m, .int .u16 n, .int .i64 24] X fun e w' => e = .returned (.tuple #[.bool (opB n), .agg #[.int .u64 (opK m n 24).1, .int .i64 (opK m n 24).2]]) ∧ Below X.heap.size X w') := Lib.hid (fun X => Op_at m n hzb.1 hzb.2 24 (by omega) (by omega) X)
  have HID : Hid (0 ≤ (opK m n 24).2 ∧ (opK m n 24).2 < 24 ∧ Kin (opK m n 24)) := Lib.hid (by
    have h : 0 ≤ (opK m n 24).2 ∧ (opK m n 24).2 < 24 := by unfold opK; simp only; omega
    exact ⟨h.1, h.2, U_wrap _, by unfold I; omega⟩)
  generalize opB n = ob at HOP
  generalize opK m n 24 = ok at HOP HID
  clear hzb hn
  go_enter Try.func5, Try.ntmps5
  go_wp2_with fail
  refine HMD.out.mono ?_
  rintro e' w2 ⟨t, b, v2, rfl, ht24, hn2, hW, hR, hb2⟩
  obtain ⟨a2, c2, rfl, -, -⟩ := hn2.len
  have HHAS : Hid (t.has ok.2) := Lib.hid (by unfold T.has; have := HID.out; omega)
  have HX2 := Lib.hid ((Below.refl w2.heap.size w2).alloc (Nat.le_refl _) (.cells #[.int .i64 t.root, .slice a2 t.ns.length c2] 24))
  have HB2 := Lib.hid (bOnA hb2 HX2.out (Nat.le_refl _))
  have HT2 := Lib.hid (Tb.new w2 t.root (.slice a2 t.ns.length c2) 24)
  have HN2 := Lib.hid (hn2.below HX2.out)
  have HWR := Lib.hid (And.intro hW hR)
  clear HMD hn2 hb2 HX2 hW hR ht24
  go_upto_region 2 with fail
  generalize w2.heap.size = q at HT2 ⊢
  generalize w2.alloc (.cells #[.int .i64 t.root, .slice a2 t.ns.length c2] 24) = w3 at HT2 HN2 HB2 ⊢
  go_wp2_with fail
  refine (HOP.out _).mono ?_
  rintro e' w4 ⟨rfl, hb4⟩
  have HX4 := Lib.hid (hb4.alloc hb4.size (.cells #[.int .u64 ok.1, .int .i64 ok.2] 27))
  have HKB := Lib.hid (Kb.new w4 ok)
  have HT4 := Lib.hid (HT2.out.below HX4.out HT2.out.lt)
  have HN4 := Lib.hid (HN2.out.below HX4.out)
  have HB4 := Lib.hid (bOnA HB2.out HX4.out (Nat.le_refl _))
  clear HOP hb4 HX4 HT2 HN2 HB2
  go_upto_region 3 with fail
  generalize w4.heap.size = qk at HKB ⊢
  generalize w4.alloc (.cells #[.int .u64 ok.1, .int .i64 ok.2] 27) = w5 at HKB HT4 HN4 HB4 ⊢
  obtain ⟨td, ed, hD, -⟩ := del_any HWR.out.1 HWR.out.2 HHAS.out
  obtain ⟨ti, ei, hI, -⟩ := ins_any HWR.out.1 HWR.out.2 HID.out.2.2 (Sub.keyU HN4.out.us HWR.out.1.len HWR.out.1.sub) HHAS.out
  have HD := Lib.hid hD
  have HI := Lib.hid hI
  clear hD hI
  -- the program's Insert
  obtain ⟨k0, k1, -, -, -⟩ := HKB.out.all
  obtain ⟨x0, x1, -, -⟩ := HT4.out.all
  have HC := Lib.hid (Insert_s HN4.out HID.out.2.2 HI.out)
  go_wp2_with fail
  refine HC.out.mono ?_
  rintro e' w6 ⟨a6, c6, rfl, hn6, hb6⟩
  have HA6 := Lib.hid ((Below.refl w6.heap.size w6).alloc (Nat.le_refl _) (.cells #[.int .i64 ti.root, .slice a6 ti.ns.length c6] 24))
  have HX6 := Lib.hid (hb6.alloc hb6.size (.cells #[.int .i64 ti.root, .slice a6 ti.ns.length c6] 24))
  have HTA := Lib.hid (Tb.new w6 ti.root (.slice a6 ti.ns.length c6) 24)
  have HNA := Lib.hid (hn6.below HA6.out)
  have HT6 := Lib.hid (HT4.out.below HX6.out HT4.out.lt)
  have HN6 := Lib.hid (HN4.out.below HX6.out)
  have HK6 := Lib.hid (HKB.out.below HX6.out HKB.out.lt)
  have HB6 := Lib.hid (bOnA HB4.out HX6.out (Nat.le_refl _))
  clear HC hn6 hb6 HA6 HX6 HT4 HN4 HKB HB4 k0 k1 x0 x1
  go_upto_region 4 with fail
  generalize w6.heap.size = qa at HTA ⊢
  generalize w6.alloc (.cells #[.int .i64 ti.root, .slice a6 ti.ns.length c6] 24) = w7 at HTA HNA HT6 HN6 HK6 HB6 ⊢
  -- the document's Insert
  obtain ⟨k0, k1, -, -, -⟩ := HK6.out.all
  obtain ⟨x0, x1, -, -⟩ := HT6.out.all
  have HC := Lib.hid (rInsert_at HN6.out HID.out.2.2 HI.out)
  unfold tv at HC
  go_wp2_with fail
  refine HC.out.mono ?_
  rintro e' w8 ⟨⟨v8, rfl, hn8⟩, hb8⟩
  obtain ⟨a8, c8, rfl, -, -⟩ := hn8.len
  have HA8 := Lib.hid ((Below.refl w8.heap.size w8).alloc (Nat.le_refl _) (.cells #[.int .i64 ti.root, .slice a8 ti.ns.length c8] 24))
  have HX8 := Lib.hid (hb8.alloc hb8.size (.cells #[.int .i64 ti.root, .slice a8 ti.ns.length c8] 24))
  have HTB := Lib.hid (Tb.new w8 ti.root (.slice a8 ti.ns.length c8) 24)
  have HNB := Lib.hid (hn8.below HA8.out)
  have HTA8 := Lib.hid (HTA.out.below HX8.out HTA.out.lt)
  have HNA8 := Lib.hid (HNA.out.below HX8.out)
  have HT8 := Lib.hid (HT6.out.below HX8.out HT6.out.lt)
  have HN8 := Lib.hid (HN6.out.below HX8.out)
  have HK8 := Lib.hid (HK6.out.below HX8.out HK6.out.lt)
  have HB8 := Lib.hid (bOnA HB6.out HX8.out (Nat.le_refl _))
  clear HC hn8 hb8 HA8 HX8 HTA HNA HT6 HN6 HK6 HB6 k0 k1 x0 x1
  go_upto_region 5 with fail
  generalize w8.heap.size = qb at HTB ⊢
  generalize w8.alloc (.cells #[.int .i64 ti.root, .slice a8 ti.ns.length c8] 24) = w9 at HTB HNB HTA8 HNA8 HT8 HN8 HK8 HB8 ⊢
  -- the program's Delete
  obtain ⟨k0, k1, -, -, -⟩ := HK8.out.all
  obtain ⟨x0, x1, -, -⟩ := HT8.out.all
  have HC := Lib.hid (Delete_s HN8.out HD.out)
  go_wp2_with fail
  refine HC.out.mono ?_
  rintro e' w10 ⟨a10, c10, rfl, hn10, hb10⟩
  have HA10 := Lib.hid ((Below.refl w10.heap.size w10).alloc (Nat.le_refl _) (.cells #[.int .i64 td.root, .slice a10 td.ns.length c10] 24))
  have HX10 := Lib.hid (hb10.alloc hb10.size (.cells #[.int .i64 td.root, .slice a10 td.ns.length c10] 24))
  have HTC := Lib.hid (Tb.new w10 td.root (.slice a10 td.ns.length c10) 24)
  have HNC := Lib.hid (hn10.below HA10.out)
  have HTA10 := Lib.hid (HTA8.out.below HX10.out HTA8.out.lt)
  have HNA10 := Lib.hid (HNA8.out.below HX10.out)
  have HTB10 := Lib.hid (HTB.out.below HX10.out HTB.out.lt)
  have HNB10 := Lib.hid (HNB.out.below HX10.out)
  have HT10 := Lib.hid (HT8.out.below HX10.out HT8.out.lt)
  have HN10 := Lib.hid (HN8.out.below HX10.out)
  have HK10 := Lib.hid (HK8.out.below HX10.out HK8.out.lt)
  have HB10 := Lib.hid (bOnA HB8.out HX10.out (Nat.le_refl _))
  clear HC hn10 hb10 HA10 HX10 HTA8 HNA8 HTB HNB HT8 HN8 HK8 HB8 k0 k1 x0 x1
  go_upto_region 6 with fail
  generalize w10.heap.size = qc at HTC ⊢
  generalize w10.alloc (.cells #[.int .i64 td.root, .slice a10 td.ns.length c10] 24) = w11 at HTC HNC HTA10 HNA10 HTB10 HNB10 HT10 HN10 HK10 HB10 ⊢
  -- the document's Delete
  obtain ⟨k0, k1, -, -, -⟩ := HK10.out.all
  obtain ⟨x0, x1, -, -⟩ := HT10.out.all
  have HC := Lib.hid (rDelete_at HN10.out HD.out)
  unfold tv at HC
  go_wp2_with fail
  refine HC.out.mono ?_
  rintro e' w12 ⟨⟨v12, rfl, hn12⟩, hb12⟩
  obtain ⟨a12, c12, rfl, -, -⟩ := hn12.len
  have HA12 := Lib.hid ((Below.refl w12.heap.size w12).alloc (Nat.le_refl _) (.cells #[.int .i64 td.root, .slice a12 td.ns.length c12] 24))
  have HX12 := Lib.hid (hb12.alloc hb12.size (.cells #[.int .i64 td.root, .slice a12 td.ns.length c12] 24))
  have HTD := Lib.hid (Tb.new w12 td.root (.slice a12 td.ns.length c12) 24)
  have HND := Lib.hid (hn12.below HA12.out)
  have HTA12 := Lib.hid (HTA10.out.below HX12.out HTA10.out.lt)
  have HNA12 := Lib.hid (HNA10.out.below HX12.out)
  have HTB12 := Lib.hid (HTB10.out.below HX12.out HTB10.out.lt)
  have HNB12 := Lib.hid (HNB10.out.below HX12.out)
  have HTC12 := Lib.hid (HTC.out.below HX12.out HTC.out.lt)
  have HNC12 := Lib.hid (HNC.out.below HX12.out)
  have HT12 := Lib.hid (HT10.out.below HX12.out HT10.out.lt)
  have HN12 := Lib.hid (HN10.out.below HX12.out)
  have HB12 := Lib.hid (bOnA HB10.out HX12.out (Nat.le_refl _))
  clear HC hn12 hb12 HA12 HX12 HTA10 HNA10 HTB10 HNB10 HTC HNC HT10 HN10 HK10 HB10 k0 k1 x0 x1
  go_upto_region 7 with fail
  generalize w12.heap.size = qd at HTD ⊢
  generalize w12.alloc (.cells #[.int .i64 td.root, .slice a12 td.ns.length c12] 24) = w0 at HTD HND HTA12 HNA12 HTB12 HNB12 HTC12 HNC12 HT12 HN12 HB12 ⊢
  -- all is held against the document's
  have HGS : Hid (∀ X, Below w0.heap.size w0 X → X.cell? ⟨qa, 0, none⟩ = some (.int .i64 ti.root) ∧ X.cell? ⟨qa, 1, none⟩ = some (.slice a6 ti.ns.length c6) ∧ X.cell? ⟨qb, 0, none⟩ = some (.int .i64 ti.root) ∧ X.cell? ⟨qb, 1, none⟩ = some (.slice a8 ti.ns.length c8) ∧ X.cell? ⟨qc, 0, none⟩ = some (.int .i64 td.root) ∧ X.cell? ⟨qc, 1, none⟩ = some (.slice a10 td.ns.length c10) ∧ X.cell? ⟨qd, 0, none⟩ = some (.int .i64 td.root) ∧ X.cell? ⟨qd, 1, none⟩ = some (.slice a12 td.ns.length c12) ∧ X.cell? ⟨q, 0, none⟩ = some (.int .i64 t.root) ∧ X.cell? ⟨q, 1, none⟩ = some (.slice a2 t.ns.length c2)) := Lib.hid (fun X hX => by
    have g1 := (HTA12.out.below hX HTA12.out.lt).all
    have g2 := (HTB12.out.below hX HTB12.out.lt).all
    have g3 := (HTC12.out.below hX HTC12.out.lt).all
    have g4 := (HTD.out.below hX HTD.out.lt).all
    have g5 := (HT12.out.below hX HT12.out.lt).all
    exact ⟨g1.1, g1.2.1, g2.1, g2.2.1, g3.1, g3.2.1, g4.1, g4.2.1, g5.1, g5.2.1⟩)
  have HT : Hid (∀ X Y, Below w0.heap.size w0 X → Below X.heap.size X Y → Below w0.heap.size w0 Y) := Lib.hid (fun X Y h1 h2 => bOnA h1 h2 (Nat.le_refl _))
  have HAW : Hid (∀ X, Below w0.heap.size w0 X → Calls Try.prog 10 #[] X fun e w' => e = .returned (.bool true) ∧ Below w0.heap.size w0 w') := Lib.hid (fun X hX => (awake_at X).mono fun e w' h => ⟨h.1, HT.out X w' hX h.2⟩)
  have HS1 : Hid (∀ X, Below w0.heap.size w0 X → Calls Try.prog 15 #[.agg #[.int .i64 ti.root, .slice a6 ti.ns.length c6], .agg #[.int .i64 ti.root, .slice a8 ti.ns.length c8]] X fun e w' => e = .returned (.bool true) ∧ Below w0.heap.size w0 w') := Lib.hid (fun X hX => (rSame_eq (HNA12.out.below hX) (HNB12.out.below hX)).mono fun e w' h => ⟨h.1, HT.out X w' hX h.2⟩)
  have HS2 : Hid (∀ X, Below w0.heap.size w0 X → Calls Try.prog 15 #[.agg #[.int .i64 td.root, .slice a10 td.ns.length c10], .agg #[.int .i64 td.root, .slice a12 td.ns.length c12]] X fun e w' => e = .returned (.bool true) ∧ Below w0.heap.size w0 w') := Lib.hid (fun X hX => (rSame_eq (HNC12.out.below hX) (HND.out.below hX)).mono fun e w' h => ⟨h.1, HT.out X w' hX h.2⟩)
  have HRI : Hid (∀ X, Below w0.heap.size w0 X → Calls Try.prog 18 #[.agg #[.int .i64 t.root, .slice a2 t.ns.length c2], .int .u64 m] X fun e w' => e = .returned (.bool true) ∧ Below w0.heap.size w0 w') := Lib.hid (fun X hX => (Right_at (HN12.out.below hX) m true ⟨fun _ => ⟨b, HWR.out.1, HWR.out.2⟩, fun _ => rfl⟩).mono fun e w' h => ⟨h.1, HT.out X w' hX h.2⟩)
  have HWA : Hid (∀ X, Below w0.heap.size w0 X → Calls Try.prog 21 #[.agg #[.int .i64 t.root, .slice a2 t.ns.length c2]] X fun e w' => (∃ vs, e = .returned vs ∧ Keys w' vs b.keys) ∧ Below X.heap.size X w') := Lib.hid (fun X hX => Walk_at (HN12.out.below hX) (.inl ⟨b, HWR.out.1, rfl⟩))
  have HWB : Hid (∀ X, Below w0.heap.size w0 X → Calls Try.prog 22 #[.agg #[.int .i64 t.root, .slice a2 t.ns.length c2]] X fun e w' => (∃ vs, e = .returned vs ∧ Keys w' vs b.keys) ∧ Below X.heap.size X w') := Lib.hid (fun X hX => rWalk_at (HN12.out.below hX) (.inl ⟨b, HWR.out.1, rfl⟩))
  have HHA : Hid (∀ X, Below w0.heap.size w0 X → Calls Try.prog 23 #[.agg #[.int .i64 t.root, .slice a2 t.ns.length c2]] X fun e w' => e = .returned (.int .i64 b.high) ∧ Below w0.heap.size w0 w') := Lib.hid (fun X hX => (Height_at (HN12.out.below hX) (.inl ⟨b, HWR.out.1, rfl⟩)).mono fun e w' h => ⟨h.1, HT.out X w' hX h.2⟩)
  have HHB : Hid (∀ X, Below w0.heap.size w0 X → Calls Try.prog 24 #[.agg #[.int .i64 t.root, .slice a2 t.ns.length c2]] X fun e w' => e = .returned (.int .i64 b.high) ∧ Below w0.heap.size w0 w') := Lib.hid (fun X hX => (rHeight_at (HN12.out.below hX) (.inl ⟨b, HWR.out.1, rfl⟩)).mono fun e w' h => ⟨h.1, HT.out X w' hX h.2⟩)
  have HSM : Hid (∀ X va vb, Below w0.heap.size w0 X → Keys X va b.keys → Keys X vb b.keys → Calls Try.prog 20 #[va, vb] X fun e w' => e = .returned (.bool true) ∧ Below w0.heap.size w0 w') := Lib.hid (fun X va vb hX h1 h2 => by
    have := same_any h1 h2
    simp only [decide_true] at this
    exact this.mono fun e w' h => ⟨h.1, HT.out X w' hX h.2.below⟩)
  have HD0 : Hid (Below w0.heap.size w0 w0.drew) := Lib.hid (Below.refl _ _).drew
  have HB0 := HB12
  have hee : (ei == ei) = true := by simp
  have hdd : (ed == ed) = true := by simp
  have hhh : ((b.high : Int) == (b.high : Int)) = true := by simp
  have hx1 := HGS.out _ HD0.out
  have hD0 := HD0.out
  clear HTD HND HTA12 HNA12 HTB12 HNB12 HTC12 HNC12 HT12 HN12 HB12 HD HI HHAS HID HD0
  generalize b.high = hg at HHA HHB hhh
  go_region_held3 (fun X => X.cell? ⟨qa, 0, none⟩ = some (.int .i64 ti.root) ∧ X.cell? ⟨qa, 1, none⟩ = some (.slice a6 ti.ns.length c6) ∧ X.cell? ⟨qb, 0, none⟩ = some (.int .i64 ti.root) ∧ X.cell? ⟨qb, 1, none⟩ = some (.slice a8 ti.ns.length c8) ∧ X.cell? ⟨qc, 0, none⟩ = some (.int .i64 td.root) ∧ X.cell? ⟨qc, 1, none⟩ = some (.slice a10 td.ns.length c10) ∧ X.cell? ⟨qd, 0, none⟩ = some (.int .i64 td.root) ∧ X.cell? ⟨qd, 1, none⟩ = some (.slice a12 td.ns.length c12) ∧ X.cell? ⟨q, 0, none⟩ = some (.int .i64 t.root) ∧ X.cell? ⟨q, 1, none⟩ = some (.slice a2 t.ns.length c2))
    (first
      | exact hx1
      | (with_reducible exact HGS.out _ (by assumption))
      | go_keep)
    (first
      | (go_at_call 10; with_reducible refine (HAW.out _ (by assumption)).mono ?_; rintro e' wa ⟨rfl, hba⟩)
      | (go_at_call 15; first | (with_reducible refine (HS1.out _ (by assumption)).mono ?_; rintro e' ws1 ⟨rfl, hbs1⟩) | (with_reducible refine (HS2.out _ (by assumption)).mono ?_; rintro e' ws2 ⟨rfl, hbs2⟩))
      | (go_at_call 18; with_reducible refine (HRI.out _ (by assumption)).mono ?_; rintro e' wr ⟨rfl, hbr⟩)
      | (go_at_call 21; with_reducible refine (HWA.out _ (by assumption)).mono ?_; rintro e' wA ⟨⟨vA, rfl, hKA⟩, hbA⟩; have hbA0 := HT.out _ _ (by assumption) hbA)
      | (go_at_call 22; with_reducible refine (HWB.out _ (by assumption)).mono ?_; rintro e' wB ⟨⟨vB, rfl, hKB⟩, hbB⟩; have hbB0 := HT.out _ _ (by assumption) hbB)
      | (go_at_call 20; first | (with_reducible refine (HSM.out _ _ _ (by assumption) (hKA.below hbB) hKB).mono ?_; rintro e' wS ⟨rfl, hbS⟩) | (with_reducible refine (HSM.out _ _ _ (by assumption) hKA (hKB.below hbA)).mono ?_; rintro e' wS ⟨rfl, hbS⟩))
      | (go_at_call 23; with_reducible refine (HHA.out _ (by assumption)).mono ?_; rintro e' wh ⟨rfl, hbh⟩)
      | (go_at_call 24; with_reducible refine (HHB.out _ (by assumption)).mono ?_; rintro e' wg ⟨rfl, hbg⟩))
  all_goals
    go_wp2
    go_ret
    exact ⟨rfl, bOnA HB0.out (by assumption) (Nat.le_refl _)⟩

set_option maxRecDepth 100000 in
theorem lifted (os : Os) (started : os.Started) (H : Type) (enc : TypeId × Value → H) :
    ReturnsInHanded {} Try.checked os 5 .any (Rows.treeMadeSpec.pre6 enc Try.prog Try.f5 Rows.treeMadeRow.domain false) (Rows.treeMadeSpec.post enc Try.prog Try.f5 false true false false) := by
  refine returnsInHanded_of_change (C := Try.checked) own started (by kernel_rfl) Try.func5
    (ChangeSpec.witness6 (enc := enc) (C := Try.checked) false ⟨#[], #[.int .u64 0, .slice none 0 0, .int .u16 0], []⟩ 8 (by kernel_rfl) (by kernel_rfl) (by kernel_rfl) (by kernel_rfl)) ?_
  intro W base args ds gs before hval0 hW _ _
  have hval : ∀ (j : Nat) t v, Try.f5.params[j]? = some t → args[j]? = some v → Value.okWide Try.prog W .any base t v := hval0
  have hW' := hW
  obtain ⟨p, q, hA0, hV, rfl, -, -⟩ := hW
  have hA : DataW.TrodAll enc Try.prog W 0 (fun _ => true) true Try.f5.params.toList args.toList ds p := hA0
  rw [Try.params5] at hA hval
  obtain ⟨v0, vs0, d0, ds0, p0, q0, hargs, rfl, rfl, h0, r0⟩ := trodAll_cons hA
  obtain ⟨v1, vs1, d1, ds1, p1, q1, rfl, rfl, rfl, h1, r1⟩ := trodAll_cons r0
  obtain ⟨v2, vs2, d2, ds2, p2, q2, rfl, rfl, rfl, h2, r2⟩ := trodAll_cons r1
  obtain ⟨rfl, rfl, rfl⟩ := trodAll_nil r2
  obtain rfl : args = #[v0, v1, v2] := by cases args; simp_all
  obtain ⟨rfl, rfl⟩ := trodVars_none hV
  obtain ⟨a0, rfl, rfl, rfl, w0⟩ := open_int Try.underlying25 (hval 0 25 v0 rfl rfl) h0
  obtain ⟨a1, w1⟩ := ints_arg Try.underlying44 Try.underlying45 (by kernel_rfl) (hval 1 44 v1 rfl rfl) h1
  obtain ⟨a2, rfl, rfl, rfl, w2⟩ := open_int Try.underlying45 (hval 2 45 v2 rfl rfl) h2
  clear hA0 hval0
  refine (walk a0 v1 a1 a2 W w0 w1 w2).mono fun e W' ⟨he, hb⟩ => ?_
  subst he
  exact ⟨_, rfl, post_law laidOut (by kernel_rfl) rfl (by kernel_rfl) Try.underlying4 hW' rfl hb⟩

/-- **TreeMade**: the given statement. -/
theorem proved : Rows.TreeMadeSaid :=
  OpenClaim.holds_of_wide 5 Try.f5 rfl rfl rfl rfl rfl rfl rfl ⟨rfl, rfl, rfl, rfl, rfl⟩ rfl rfl rfl rfl rfl (by kernel_rfl) Try.func5 (by kernel_rfl)
    (of_decide_eq_true (by kernel_rfl)) (by unfold Func.isWrapper; first | (rw [if_pos (by decide +kernel)]; kernel_rfl) | (rw [if_neg (by decide +kernel)]; exact ⟨rfl, rfl⟩))
    (fun os started H enc _ => lifted os started H enc)
end Go.Proofs.Ytgjacmkedgbneaa.treeMade
