/-
  TreeTells returns true at every input, and turns nothing that was there: of any tree, whole and right or not, and any key, it is told, put in, and taken out, what the document says.
-/
import Derived.Test.YtgjacmkedgbneaaTyV
import Derived.Deep.RegionHeld3
import Derived.Deep.CutRange
namespace Go.Proofs.Ytgjacmkedgbneaa.treeTells
open Go.ChangeShapes Go.WideShapes Go.ChangeAt Go.RowKit Go.Sort Wd Tn Ky Tr

set_option maxHeartbeats 8000000 in
set_option maxRecDepth 100000 in
theorem walk0 (m : Int) (v : Value) (t : T) (ok : K) (W : World) (hN : Nds W v t.ns) (hk : Kin ok) :
    Calls Try.prog 3 #[.agg #[.int .i64 t.root, v], .int .u64 m, .agg #[.int .u64 ok.1, .int .i64 ok.2]] W fun e w' => e = .returned (.bool true) ∧ Below W.heap.size W w' := by
  obtain ⟨a2, c2, rfl, -, -⟩ := hN.len
  have HID := Lib.hid hk
  have HX := Lib.hid (((Below.refl W.heap.size W).alloc (Nat.le_refl _) (.cells #[.int .i64 t.root, .slice a2 t.ns.length c2] 24)).alloc (by simp) (.cells #[.int .u64 ok.1, .int .i64 ok.2] 27))
  have HT4 : Hid (Tb ((W.alloc (.cells #[.int .i64 t.root, .slice a2 t.ns.length c2] 24)).alloc (.cells #[.int .u64 ok.1, .int .i64 ok.2] 27)) W.heap.size t.root (.slice a2 t.ns.length c2) 24) := Lib.hid ((Tb.new W t.root (.slice a2 t.ns.length c2) 24).below ((Below.refl _ _).alloc (Nat.le_refl _) _) (Tb.new W t.root (.slice a2 t.ns.length c2) 24).lt)
  have HKB : Hid (Kb ((W.alloc (.cells #[.int .i64 t.root, .slice a2 t.ns.length c2] 24)).alloc (.cells #[.int .u64 ok.1, .int .i64 ok.2] 27)) (W.heap.size + 1) ok) := Lib.hid (by
    have := Kb.new (W.alloc (.cells #[.int .i64 t.root, .slice a2 t.ns.length c2] 24)) ok
    rwa [World.size_alloc] at this)
  have HN4 := Lib.hid (hN.below HX.out)
  have HB4 := Lib.hid HX.out
  clear hN hk HX
  go_enter Try.func3, Try.ntmps3
  go_upto_region 1 with fail
  generalize W.heap.size = q at HT4 HKB ⊢
  generalize hqk : q + 1 = qk at HKB ⊢
  clear hqk
  generalize (W.alloc _).alloc _ = w5 at HT4 HKB HN4 HB4 ⊢
  by_cases h70 : 70 < t.ns.length
  · have h70i : (70 : Int) < (t.ns.length : Int) := by omega
    obtain ⟨x0, x1, -, -⟩ := HT4.out.all
    go_wp2_with fail
    refine (awake_at _).mono ?_
    rintro e' w6 ⟨rfl, hb6⟩
    have HF := Lib.hid (bOnA HB4.out hb6 (Nat.le_refl _))
    go_wp2
    go_ret
    exact ⟨rfl, HF.out⟩
  have h70i : ¬ (70 : Int) < (t.ns.length : Int) := by omega
  obtain ⟨td, ed, hD⟩ := del_total (m := m) (t := t) (z := ok.2)
  obtain ⟨ti, ei, hI⟩ := ins_total (m := m) (t := t) HID.out HN4.out.us
  obtain ⟨L, hg, hL, hH⟩ := walk_total t
  obtain ⟨rr, hrr⟩ := right_bool m t
  have HD := Lib.hid hD
  have HI := Lib.hid hI
  have HLH := Lib.hid (And.intro hL (And.intro hH hrr))
  clear hD hI hL hH hrr h70
  -- the program's Insert
  obtain ⟨k0, k1, -, -, -⟩ := HKB.out.all
  obtain ⟨x0, x1, -, -⟩ := HT4.out.all
  have HC := Lib.hid (Insert_s HN4.out HID.out HI.out)
  go_wp2_with fail
  refine HC.out.mono ?_
  rintro e' w6 ⟨a6, c6, rfl, hn6, hb6⟩
  have HA6 := Lib.hid ((Below.refl w6.heap.size w6).alloc (Nat.le_refl _) (.cells #[.int .i64 ti.root, .slice a6 ti.ns.length c6] 24))
  have HX6 := Lib.hid (hb6.alloc hb6.size (.cells #[.int .i64 ti.root, .slice a6 ti.ns.length c6] 24))
  have HTA := Lib.hid (Tb.new w6 ti.root (.slice a6 ti.ns.length c6) 24)
  have HNA := Lib.hid (hn6.below HA6.out)
  have HT6 := Lib.hid (HT4.out.below HX6.out HT4.out.lt)
  have HN6 := Lib.hid (HN4.out.below HX6.out)
  have HK6 := Lib.hid (HKB.out.below HX6.out HKB.out.lt)
  have HB6 := Lib.hid (bOnA HB4.out HX6.out (Nat.le_refl _))
  clear HC hn6 hb6 HA6 HX6 HT4 HN4 HKB HB4 k0 k1 x0 x1
  go_upto_region 4 with fail
  generalize w6.heap.size = qa at HTA ⊢
  generalize w6.alloc (.cells #[.int .i64 ti.root, .slice a6 ti.ns.length c6] 24) = w7 at HTA HNA HT6 HN6 HK6 HB6 ⊢
  -- the document's Insert
  obtain ⟨k0, k1, -, -, -⟩ := HK6.out.all
  obtain ⟨x0, x1, -, -⟩ := HT6.out.all
  have HC := Lib.hid (rInsert_at HN6.out HID.out HI.out)
  unfold tv at HC
  go_wp2_with fail
  refine HC.out.mono ?_
  rintro e' w8 ⟨⟨v8, rfl, hn8⟩, hb8⟩
  obtain ⟨a8, c8, rfl, -, -⟩ := hn8.len
  have HA8 := Lib.hid ((Below.refl w8.heap.size w8).alloc (Nat.le_refl _) (.cells #[.int .i64 ti.root, .slice a8 ti.ns.length c8] 24))
  have HX8 := Lib.hid (hb8.alloc hb8.size (.cells #[.int .i64 ti.root, .slice a8 ti.ns.length c8] 24))
  have HTB := Lib.hid (Tb.new w8 ti.root (.slice a8 ti.ns.length c8) 24)
  have HNB := Lib.hid (hn8.below HA8.out)
  have HTA8 := Lib.hid (HTA.out.below HX8.out HTA.out.lt)
  have HNA8 := Lib.hid (HNA.out.below HX8.out)
  have HT8 := Lib.hid (HT6.out.below HX8.out HT6.out.lt)
  have HN8 := Lib.hid (HN6.out.below HX8.out)
  have HK8 := Lib.hid (HK6.out.below HX8.out HK6.out.lt)
  have HB8 := Lib.hid (bOnA HB6.out HX8.out (Nat.le_refl _))
  clear HC hn8 hb8 HA8 HX8 HTA HNA HT6 HN6 HK6 HB6 k0 k1 x0 x1
  go_upto_region 5 with fail
  generalize w8.heap.size = qb at HTB ⊢
  generalize w8.alloc (.cells #[.int .i64 ti.root, .slice a8 ti.ns.length c8] 24) = w9 at HTB HNB HTA8 HNA8 HT8 HN8 HK8 HB8 ⊢
  -- the program's Delete
  obtain ⟨k0, k1, -, -, -⟩ := HK8.out.all
  obtain ⟨x0, x1, -, -⟩ := HT8.out.all
  have HC := Lib.hid (Delete_s HN8.out HD.out)
  go_wp2_with fail
  refine HC.out.mono ?_
  rintro e' w10 ⟨a10, c10, rfl, hn10, hb10⟩
  have HA10 := Lib.hid ((Below.refl w10.heap.size w10).alloc (Nat.le_refl _) (.cells #[.int .i64 td.root, .slice a10 td.ns.length c10] 24))
  have HX10 := Lib.hid (hb10.alloc hb10.size (.cells #[.int .i64 td.root, .slice a10 td.ns.length c10] 24))
  have HTC := Lib.hid (Tb.new w10 td.root (.slice a10 td.ns.length c10) 24)
  have HNC := Lib.hid (hn10.below HA10.out)
  have HTA10 := Lib.hid (HTA8.out.below HX10.out HTA8.out.lt)
  have HNA10 := Lib.hid (HNA8.out.below HX10.out)
  have HTB10 := Lib.hid (HTB.out.below HX10.out HTB.out.lt)
  have HNB10 := Lib.hid (HNB.out.below HX10.out)
  have HT10 := Lib.hid (HT8.out.below HX10.out HT8.out.lt)
  have HN10 := Lib.hid (HN8.out.below HX10.out)
  have HK10 := Lib.hid (HK8.out.below HX10.out HK8.out.lt)
  have HB10 := Lib.hid (bOnA HB8.out HX10.out (Nat.le_refl _))
  clear HC hn10 hb10 HA10 HX10 HTA8 HNA8 HTB HNB HT8 HN8 HK8 HB8 k0 k1 x0 x1
  go_upto_region 6 with fail
  generalize w10.heap.size = qc at HTC ⊢
  generalize w10.alloc (.cells #[.int .i64 td.root, .slice a10 td.ns.length c10] 24) = w11 at HTC HNC HTA10 HNA10 HTB10 HNB10 HT10 HN10 HK10 HB10 ⊢
  -- the document's Delete
  obtain ⟨k0, k1, -, -, -⟩ := HK10.out.all
  obtain ⟨x0, x1, -, -⟩ := HT10.out.all
  have HC := Lib.hid (rDelete_at HN10.out HD.out)
  unfold tv at HC
  go_wp2_with fail
  refine HC.out.mono ?_
  rintro e' w12 ⟨⟨v12, rfl, hn12⟩, hb12⟩
  obtain ⟨a12, c12, rfl, -, -⟩ := hn12.len
  have HA12 := Lib.hid ((Below.refl w12.heap.size w12).alloc (Nat.le_refl _) (.cells #[.int .i64 td.root, .slice a12 td.ns.length c12] 24))
  have HX12 := Lib.hid (hb12.alloc hb12.size (.cells #[.int .i64 td.root, .slice a12 td.ns.length c12] 24))
  have HTD := Lib.hid (Tb.new w12 td.root (.slice a12 td.ns.length c12) 24)
  have HND := Lib.hid (hn12.below HA12.out)
  have HTA12 := Lib.hid (HTA10.out.below HX12.out HTA10.out.lt)
  have HNA12 := Lib.hid (HNA10.out.below HX12.out)
  have HTB12 := Lib.hid (HTB10.out.below HX12.out HTB10.out.lt)
  have HNB12 := Lib.hid (HNB10.out.below HX12.out)
  have HTC12 := Lib.hid (HTC.out.below HX12.out HTC.out.lt)
  have HNC12 := Lib.hid (HNC.out.below HX12.out)
  have HT12 := Lib.hid (HT10.out.below HX12.out HT10.out.lt)
  have HN12 := Lib.hid (HN10.out.below HX12.out)
  have HB12 := Lib.hid (bOnA HB10.out HX12.out (Nat.le_refl _))
  clear HC hn12 hb12 HA12 HX12 HTA10 HNA10 HTB10 HNB10 HTC HNC HT10 HN10 HK10 HB10 k0 k1 x0 x1
  go_upto_region 7 with fail
  generalize w12.heap.size = qd at HTD ⊢
  generalize w12.alloc (.cells #[.int .i64 td.root, .slice a12 td.ns.length c12] 24) = w0 at HTD HND HTA12 HNA12 HTB12 HNB12 HTC12 HNC12 HT12 HN12 HB12 ⊢
  have hee : (ei != ei) = false := by simp
  have hdd : (ed != ed) = false := by simp
  obtain ⟨g0, g1, -, -⟩ := HTA12.out.all
  obtain ⟨g2, g3, -, -⟩ := HTB12.out.all
  have HC := Lib.hid (rSame_eq HNA12.out HNB12.out)
  go_wp2_with fail
  refine HC.out.mono ?_
  rintro e' w13 ⟨rfl, hb13⟩
  obtain ⟨g4, g5, -, -⟩ := (HTC12.out.below hb13 HTC12.out.lt).all
  obtain ⟨g6, g7, -, -⟩ := (HTD.out.below hb13 HTD.out.lt).all
  have HC2 := Lib.hid (rSame_eq (HNC12.out.below hb13) (HND.out.below hb13))
  have HT13 := Lib.hid (HT12.out.below hb13 HT12.out.lt)
  have HN13 := Lib.hid (HN12.out.below hb13)
  have HB13 := Lib.hid (bOnA HB12.out hb13 (Nat.le_refl _))
  clear HC g0 g1 g2 g3 hb13 HTA12 HNA12 HTB12 HNB12 HTC12 HNC12 HTD HND HT12 HN12 HB12 HD HI
  go_wp2_with fail
  refine HC2.out.mono ?_
  rintro e' w14 ⟨rfl, hb14⟩
  have HT14 := Lib.hid (HT13.out.below hb14 HT13.out.lt)
  have HN14 := Lib.hid (HN13.out.below hb14)
  have HB14 := Lib.hid (bOnA HB13.out hb14 (Nat.le_refl _))
  clear HC2 g4 g5 g6 g7 hb14 HT13 HN13 HB13
  -- the program's First
  obtain ⟨x0, x1, -, -⟩ := HT14.out.all
  have HC := Lib.hid (First_at HN14.out HLH.out.1)
  unfold tv at HC
  obtain ⟨fk, hfk⟩ : ∃ k : K, L.headD (0, 0) = k := ⟨_, rfl⟩
  obtain ⟨fe, hfe⟩ : ∃ k : Bool, (!L.isEmpty) = k := ⟨_, rfl⟩
  rw [hfk, hfe] at HC
  go_wp2_with fail
  refine HC.out.mono ?_
  rintro e' w15 ⟨rfl, hb15⟩
  have HX15 := Lib.hid (hb15.alloc hb15.size (.cells #[.int .u64 fk.1, .int .i64 fk.2] 27))
  have HKX := Lib.hid (Kb.new w15 fk)
  have HT15 := Lib.hid (HT14.out.below HX15.out HT14.out.lt)
  have HN15 := Lib.hid (HN14.out.below HX15.out)
  have HB15 := Lib.hid (bOnA HB14.out HX15.out (Nat.le_refl _))
  clear HC hb15 HX15 HT14 HN14 HB14 x0 x1
  go_upto_region 10 with fail
  generalize w15.heap.size = qx at HKX ⊢
  generalize w15.alloc (.cells #[.int .u64 fk.1, .int .i64 fk.2] 27) = w16 at HKX HT15 HN15 HB15 ⊢
  -- the document's First
  obtain ⟨x0, x1, -, -⟩ := HT15.out.all
  have HC := Lib.hid (rFirst_at HN15.out HLH.out.1)
  unfold tv at HC
  rw [hfk, hfe] at HC
  go_wp2_with fail
  refine HC.out.mono ?_
  rintro e' w17 ⟨rfl, hb17⟩
  have HX17 := Lib.hid (hb17.alloc hb17.size (.cells #[.int .u64 fk.1, .int .i64 fk.2] 27))
  have HKY := Lib.hid (Kb.new w17 fk)
  have HKX17 := Lib.hid (HKX.out.below HX17.out HKX.out.lt)
  have HT17 := Lib.hid (HT15.out.below HX17.out HT15.out.lt)
  have HN17 := Lib.hid (HN15.out.below HX17.out)
  have HB17 := Lib.hid (bOnA HB15.out HX17.out (Nat.le_refl _))
  clear HC hb17 HX17 HKX HT15 HN15 HB15 x0 x1 hfk hfe
  go_upto_region 11 with fail
  generalize w17.heap.size = qy at HKY ⊢
  generalize w17.alloc (.cells #[.int .u64 fk.1, .int .i64 fk.2] 27) = w0 at HKY HKX17 HT17 HN17 HB17 ⊢
  -- all is held against the document's
  obtain ⟨f0, f1⟩ := fk
  have HGS : Hid (∀ X, Below w0.heap.size w0 X → X.cell? ⟨q, 0, none⟩ = some (.int .i64 t.root) ∧ X.cell? ⟨q, 1, none⟩ = some (.slice a2 t.ns.length c2) ∧ X.cell? ⟨qx, 0, none⟩ = some (.int .u64 f0) ∧ X.cell? ⟨qx, 1, none⟩ = some (.int .i64 f1) ∧ X.cell? ⟨qy, 0, none⟩ = some (.int .u64 f0) ∧ X.cell? ⟨qy, 1, none⟩ = some (.int .i64 f1)) := Lib.hid (fun X hX => by
    have g1 := (HT17.out.below hX HT17.out.lt).all
    have g2 := (HKX17.out.below hX HKX17.out.lt).all
    have g3 := (HKY.out.below hX HKY.out.lt).all
    exact ⟨g1.1, g1.2.1, g2.1, g2.2.1, g3.1, g3.2.1⟩)
  have HT : Hid (∀ X Y, Below w0.heap.size w0 X → Below X.heap.size X Y → Below w0.heap.size w0 Y) := Lib.hid (fun X Y h1 h2 => bOnA h1 h2 (Nat.le_refl _))
  have HAW : Hid (∀ X, Below w0.heap.size w0 X → Calls Try.prog 10 #[] X fun e w' => e = .returned (.bool true) ∧ Below w0.heap.size w0 w') := Lib.hid (fun X hX => (awake_at X).mono fun e w' h => ⟨h.1, HT.out X w' hX h.2⟩)
  have HRI : Hid (∀ X, Below w0.heap.size w0 X → Calls Try.prog 18 #[.agg #[.int .i64 t.root, .slice a2 t.ns.length c2], .int .u64 m] X fun e w' => e = .returned (.bool rr) ∧ Below w0.heap.size w0 w') := Lib.hid (fun X hX => (Right_at (HN17.out.below hX) m rr HLH.out.2.2).mono fun e w' h => ⟨h.1, HT.out X w' hX h.2⟩)
  have HRJ : Hid (∀ X, Below w0.heap.size w0 X → Calls Try.prog 19 #[.agg #[.int .i64 t.root, .slice a2 t.ns.length c2], .int .u64 m] X fun e w' => e = .returned (.bool rr) ∧ Below w0.heap.size w0 w') := Lib.hid (fun X hX => (rRight_at (HN17.out.below hX) m rr HLH.out.2.2).mono fun e w' h => ⟨h.1, HT.out X w' hX h.2⟩)
  have HWA : Hid (∀ X, Below w0.heap.size w0 X → Calls Try.prog 21 #[.agg #[.int .i64 t.root, .slice a2 t.ns.length c2]] X fun e w' => (∃ vs, e = .returned vs ∧ Keys w' vs L) ∧ Below X.heap.size X w') := Lib.hid (fun X hX => Walk_at (HN17.out.below hX) HLH.out.1)
  have HWB : Hid (∀ X, Below w0.heap.size w0 X → Calls Try.prog 22 #[.agg #[.int .i64 t.root, .slice a2 t.ns.length c2]] X fun e w' => (∃ vs, e = .returned vs ∧ Keys w' vs L) ∧ Below X.heap.size X w') := Lib.hid (fun X hX => rWalk_at (HN17.out.below hX) HLH.out.1)
  have HHA : Hid (∀ X, Below w0.heap.size w0 X → Calls Try.prog 23 #[.agg #[.int .i64 t.root, .slice a2 t.ns.length c2]] X fun e w' => e = .returned (.int .i64 hg) ∧ Below w0.heap.size w0 w') := Lib.hid (fun X hX => (Height_at (HN17.out.below hX) HLH.out.2.1).mono fun e w' h => ⟨h.1, HT.out X w' hX h.2⟩)
  have HHB : Hid (∀ X, Below w0.heap.size w0 X → Calls Try.prog 24 #[.agg #[.int .i64 t.root, .slice a2 t.ns.length c2]] X fun e w' => e = .returned (.int .i64 hg) ∧ Below w0.heap.size w0 w') := Lib.hid (fun X hX => (rHeight_at (HN17.out.below hX) HLH.out.2.1).mono fun e w' h => ⟨h.1, HT.out X w' hX h.2⟩)
  have HSM : Hid (∀ X va vb, Below w0.heap.size w0 X → Keys X va L → Keys X vb L → Calls Try.prog 20 #[va, vb] X fun e w' => e = .returned (.bool true) ∧ Below w0.heap.size w0 w') := Lib.hid (fun X va vb hX h1 h2 => by
    have := same_any h1 h2
    simp only [decide_true] at this
    exact this.mono fun e w' h => ⟨h.1, HT.out X w' hX h.2.below⟩)
  have hD0 : Below w0.heap.size w0 w0.drew := (Below.refl _ _).drew
  have hrr : (rr == rr) = true := by simp
  have hff : (fe == fe) = true := by simp
  have hhh : ((hg : Int) == (hg : Int)) = true := by simp
  have e1 : (f0 == f0) = true := by simp
  have e2 : (f1 == f1) = true := by simp
  have hx1 := HGS.out _ hD0
  clear HKY HKX17 HT17 HN17 HID HLH
  go_region_held3 (fun X => X.cell? ⟨q, 0, none⟩ = some (.int .i64 t.root) ∧ X.cell? ⟨q, 1, none⟩ = some (.slice a2 t.ns.length c2) ∧ X.cell? ⟨qx, 0, none⟩ = some (.int .u64 f0) ∧ X.cell? ⟨qx, 1, none⟩ = some (.int .i64 f1) ∧ X.cell? ⟨qy, 0, none⟩ = some (.int .u64 f0) ∧ X.cell? ⟨qy, 1, none⟩ = some (.int .i64 f1))
    (first
      | exact hx1
      | (with_reducible exact HGS.out _ (by assumption))
      | go_keep)
    (first
      | (go_at_call 10; with_reducible refine (HAW.out _ (by assumption)).mono ?_; rintro e' wa ⟨rfl, hba⟩)
      | (go_at_call 18; with_reducible refine (HRI.out _ (by assumption)).mono ?_; rintro e' wr ⟨rfl, hbr⟩)
      | (go_at_call 19; with_reducible refine (HRJ.out _ (by assumption)).mono ?_; rintro e' wq ⟨rfl, hbq⟩)
      | (go_at_call 21; with_reducible refine (HWA.out _ (by assumption)).mono ?_; rintro e' wA ⟨⟨vA, rfl, hKA⟩, hbA⟩; have hbA0 := HT.out _ _ (by assumption) hbA)
      | (go_at_call 22; with_reducible refine (HWB.out _ (by assumption)).mono ?_; rintro e' wB ⟨⟨vB, rfl, hKB⟩, hbB⟩; have hbB0 := HT.out _ _ (by assumption) hbB)
      | (go_at_call 20; first | (with_reducible refine (HSM.out _ _ _ (by assumption) (hKA.below hbB) hKB).mono ?_; rintro e' wS ⟨rfl, hbS⟩) | (with_reducible refine (HSM.out _ _ _ (by assumption) hKA (hKB.below hbA)).mono ?_; rintro e' wS ⟨rfl, hbS⟩))
      | (go_at_call 23; with_reducible refine (HHA.out _ (by assumption)).mono ?_; rintro e' wh ⟨rfl, hbh⟩)
      | (go_at_call 24; with_reducible refine (HHB.out _ (by assumption)).mono ?_; rintro e' wg ⟨rfl, hbg⟩))
  all_goals
    go_wp2
    go_ret
    exact ⟨rfl, bOnA HB17.out (by assumption) (Nat.le_refl _)⟩

theorem walk (rt : Int) (vn : Value) (ns : List N) (m kv ki : Int) (W : World) (_h0 : (Lit.int .i64 rt).wf = true) (hE : Els encN W vn ns) (_hm : (Lit.int .u64 m).wf = true) (hv : (Lit.int .u64 kv).wf = true) (hi : (Lit.int .i64 ki).wf = true) :
    Calls Try.prog 3 #[.agg #[.int .i64 rt, vn], .int .u64 m, .agg #[.int .u64 kv, .int .i64 ki]] W fun e w' => e = .returned (.bool true) ∧ Below W.heap.size W w' :=
  walk0 m vn ⟨rt, ns⟩ (kv, ki) W hE.nds ⟨show U kv from by have := bounds_u64 hv; unfold U M; omega, show I ki from by have := bounds_i64 hi; unfold I; omega⟩

set_option maxRecDepth 100000 in
theorem lifted (os : Os) (started : os.Started) (H : Type) (enc : TypeId × Value → H) :
    ReturnsInHanded {} Try.checked os 3 .any (Rows.treeTellsSpec.pre6 enc Try.prog Try.f3 Rows.treeTellsRow.domain false) (Rows.treeTellsSpec.post enc Try.prog Try.f3 false true false false) := by
  refine returnsInHanded_of_change (C := Try.checked) own started (by kernel_rfl) Try.func3
    (ChangeSpec.witness6 (enc := enc) (C := Try.checked) false ⟨#[], #[.agg #[Value.int .i64 0, Value.slice none 0 0], .int .u64 0, .agg #[Value.int .u64 0, Value.int .i64 0]], []⟩ 8 (by kernel_rfl) (by kernel_rfl) (by kernel_rfl) (by kernel_rfl)) ?_
  intro W base args ds gs before hval0 hW _ _
  have hval : ∀ (j : Nat) t v, Try.f3.params[j]? = some t → args[j]? = some v → Value.okWide Try.prog W .any base t v := hval0
  have hW' := hW
  obtain ⟨p, q, hA0, hV, rfl, -, -⟩ := hW
  have hA : DataW.TrodAll enc Try.prog W 0 (fun _ => true) true Try.f3.params.toList args.toList ds p := hA0
  rw [Try.params3] at hA hval
  obtain ⟨v0, vs0, d0, ds0, p0, q0, hargs, rfl, rfl, h0, r0⟩ := trodAll_cons hA
  obtain ⟨v1, vs1, d1, ds1, p1, q1, rfl, rfl, rfl, h1, r1⟩ := trodAll_cons r0
  obtain ⟨v2, vs2, d2, ds2, p2, q2, rfl, rfl, rfl, h2, r2⟩ := trodAll_cons r1
  obtain ⟨rfl, rfl, rfl⟩ := trodAll_nil r2
  obtain rfl : args = #[v0, v1, v2] := by cases args; simp_all
  obtain ⟨rfl, rfl⟩ := trodVars_none hV
  obtain ⟨cs0, rfl, hl0, hf0⟩ := fields_arg Try.underlying24 (by kernel_rfl) (by kernel_rfl) (hval 0 24 v0 rfl rfl) h0
  obtain ⟨c0_0, c0_1, rfl⟩ := list2 hl0
  obtain ⟨_, _, t0_0⟩ := hf0 0 _ _ rfl rfl
  obtain ⟨a0_0, e0_0, -, w0_0⟩ := DataW.trod_int Try.underlying3 t0_0
  obtain rfl := (List.cons.inj e0_0).1
  obtain ⟨_, _, t0_1⟩ := hf0 1 _ _ rfl rfl
  obtain ⟨a0_1, w0_1⟩ := els_field encN Try.underlying22 Try.underlying57 (by kernel_rfl) (by kernel_rfl) (node_dec Try.underlying4 Try.underlying4 Try.underlying25 Try.underlying3 Try.underlying3 Try.underlying3) t0_1
  clear hf0 hl0
  obtain ⟨a1, rfl, rfl, rfl, w1⟩ := open_int Try.underlying25 (hval 1 25 v1 rfl rfl) h1
  obtain ⟨cs2, rfl, hl2, hf2⟩ := fields_arg Try.underlying27 (by kernel_rfl) (by kernel_rfl) (hval 2 27 v2 rfl rfl) h2
  obtain ⟨c2_0, c2_1, rfl⟩ := list2 hl2
  obtain ⟨_, _, t2_0⟩ := hf2 0 _ _ rfl rfl
  obtain ⟨a2_0, e2_0, -, w2_0⟩ := DataW.trod_int Try.underlying25 t2_0
  obtain rfl := (List.cons.inj e2_0).1
  obtain ⟨_, _, t2_1⟩ := hf2 1 _ _ rfl rfl
  obtain ⟨a2_1, e2_1, -, w2_1⟩ := DataW.trod_int Try.underlying3 t2_1
  obtain rfl := (List.cons.inj e2_1).1
  clear hf2 hl2
  clear hA0 hval0
  refine (walk a0_0 c0_1 a0_1 a1 a2_0 a2_1 W w0_0 w0_1 w1 w2_0 w2_1).mono fun e W' ⟨he, hb⟩ => ?_
  subst he
  exact ⟨_, rfl, post_law laidOut (by kernel_rfl) rfl (by kernel_rfl) Try.underlying4 hW' rfl hb⟩

/-- **TreeTells**: the given statement. -/
theorem proved : Rows.TreeTellsSaid :=
  OpenClaim.holds_of_wide 3 Try.f3 rfl rfl rfl rfl rfl rfl rfl ⟨rfl, rfl, rfl, rfl, rfl⟩ rfl rfl rfl rfl rfl (by kernel_rfl) Try.func3 (by kernel_rfl)
    (of_decide_eq_true (by kernel_rfl)) (by unfold Func.isWrapper; first | (rw [if_pos (by decide +kernel)]; kernel_rfl) | (rw [if_neg (by decide +kernel)]; exact ⟨rfl, rfl⟩))
    (fun os started H enc _ => lifted os started H enc)
end Go.Proofs.Ytgjacmkedgbneaa.treeTells
