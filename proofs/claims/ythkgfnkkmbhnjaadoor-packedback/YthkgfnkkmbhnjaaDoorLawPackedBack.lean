/-
  PackedBack returns true at every input, and turns nothing that was there: Unpack undoes Pack, and Pack Unpack. The table of places is tied to the program's text.
-/
import Derived.Test.YthkgfnkkmbhnjaaDoorPkD
import Derived.Test.YthkgfnkkmbhnjaaDoorPkS
import Derived.Test.YthkgfnkkmbhnjaaDoorPkL
import Derived.Test.YthkgfnkkmbhnjaaDoorAgg
import Derived.Test.YthkgfnkkmbhnjaaDoorPost
namespace Go.Proofs.YthkgfnkkmbhnjaaDoor.packedBack
open Go.ChangeShapes Go.WideShapes Go.ChangeAt Go.RowKit Pk

set_option maxRecDepth 100000 in
set_option maxHeartbeats 4000000 in
theorem walk11 (k c : Int) (b : Bool) (s g w : Int) (hw : U w) (hm : may k c b s g) (hi : isW w) (W : World) (hT : Tab W) :
    Calls Tryd.prog 6 #[.agg #[.int .i64 k, .int .i64 c, .bool b, .int .i64 s, .int .i64 g], .int .u64 w] W fun e w' => e = .returned (.bool true) ∧ Below W.heap.size W w' := by
  have HT := Lib.hid hT
  have HU := Lib.hid hw
  have HP := Lib.hid (pk_yes hm)
  have HV : Hid (U (word k c b s g)) := Lib.hid (by have := word_lt hm; unfold U; omega)
  have HQ : Hid (uK (word k c b s g) = k ∧ uC (word k c b s g) = c ∧ uB (word k c b s g) = b ∧ uS (word k c b s g) = s ∧ uG (word k c b s g) = g ∧ uE (word k c b s g) = 0) := Lib.hid (by
    have h1 := un_yes (word_isW hm)
    have h2 := word_parts hm
    exact ⟨h1.1.trans h2.1, h1.2.1.trans h2.2.1, h1.2.2.1.trans h2.2.2.1, h1.2.2.2.1.trans h2.2.2.2.1, h1.2.2.2.2.1.trans h2.2.2.2.2, h1.2.2.2.2.2⟩)
  generalize word k c b s g = v at *
  have HI := Lib.hid (un_yes hi)
  have HJ : Hid (pkW (K w) (C w) (B w) (S w) (G w) = w ∧ pkE (K w) (C w) (B w) (S w) (G w) = 0) := Lib.hid (by
    have h1 := pk_yes (parts_may hi)
    exact ⟨h1.1.trans (parts_word hi), h1.2⟩)
  generalize K w = k' at *
  generalize C w = c' at *
  generalize B w = b' at *
  generalize S w = s' at *
  generalize G w = g' at *
  clear hT hw hm hi
  go_enter Tryd.func6, Tryd.ntmps6
  go_wp2_with fail
  refine (awake_any _ (HT.out.below (by go_grown))).mono ?_
  rintro e' w_h1 ⟨rfl, h1⟩
  have H1 := Lib.hid (bOn (by go_grown) h1 : Below W.heap.size W w_h1)
  have HX1 := Lib.hid ((St.new W k c b s g).below h1 (by simp))
  clear h1
  obtain ⟨⟨x0, x1, x2, x3, x4⟩, -, hx⟩ := HX1.out.all
  go_wp2_with fail
  refine (pack_any k c b s g _ (HT.out.below H1.out)).mono ?_
  rintro e' w_h2 ⟨rfl, h2⟩
  rw [HP.out.1, HP.out.2]
  have H2 := Lib.hid (bOn H1.out h2)
  have HX2 := Lib.hid (HX1.out.below h2 HX1.out.lt)
  clear h2 x0 x1 x2 x3 x4 hx H1 HX1
  go_wp2_with fail
  refine (unpack_any v HV.out _ (HT.out.below H2.out)).mono ?_
  rintro e' w_h3 ⟨rfl, h3⟩
  rw [HQ.out.1, HQ.out.2.1, HQ.out.2.2.1, HQ.out.2.2.2.1, HQ.out.2.2.2.2.1, HQ.out.2.2.2.2.2]
  have H3 := Lib.hid (bOn H2.out h3)
  have HX3 := Lib.hid (HX2.out.below h3 HX2.out.lt)
  clear h3 H2 HX2
  obtain ⟨⟨x0, x1, x2, x3, x4⟩, -, hx⟩ := HX3.out.all
  have hne : W.heap.size ≠ w_h3.heap.size := by omega
  have hne' : w_h3.heap.size ≠ W.heap.size := by omega
  go_wp2_with fail
  refine (unpack_any w HU.out _ (HT.out.below (bOn H3.out (by go_grown)))).mono ?_
  rintro e' w_h4 ⟨rfl, h4⟩
  rw [HI.out.1, HI.out.2.1, HI.out.2.2.1, HI.out.2.2.2.1, HI.out.2.2.2.2.1, HI.out.2.2.2.2.2]
  have H4 := Lib.hid (bOn H3.out (bOn (by go_grown) h4) : Below W.heap.size W w_h4)
  clear h4 x0 x1 x2 x3 x4 hx hne hne' H3 HX3
  go_wp2_with fail
  refine (pack_any k' c' b' s' g' _ (HT.out.below (bOn H4.out (by go_grown)))).mono ?_
  rintro e' w_h5 ⟨rfl, h5⟩
  rw [HJ.out.1, HJ.out.2]
  have H5 := Lib.hid (bOn H4.out (bOn (by go_grown) h5) : Below W.heap.size W w_h5)
  have HX5 := Lib.hid ((St.new w_h4 k' c' b' s' g').below h5 (by simp))
  clear h5
  obtain ⟨⟨x0, x1, x2, x3, x4⟩, -, hx⟩ := HX5.out.all
  have ew : (w == w) = true := by simp
  go_wp2
  go_ret
  exact ⟨rfl, H5.out⟩

set_option maxRecDepth 100000 in
set_option maxHeartbeats 4000000 in
theorem walk10 (k c : Int) (b : Bool) (s g w : Int) (hw : U w) (hm : may k c b s g) (hi : ¬ isW w) (W : World) (hT : Tab W) :
    Calls Tryd.prog 6 #[.agg #[.int .i64 k, .int .i64 c, .bool b, .int .i64 s, .int .i64 g], .int .u64 w] W fun e w' => e = .returned (.bool true) ∧ Below W.heap.size W w' := by
  have HT := Lib.hid hT
  have HU := Lib.hid hw
  have HP := Lib.hid (pk_yes hm)
  have HV : Hid (U (word k c b s g)) := Lib.hid (by have := word_lt hm; unfold U; omega)
  have HQ : Hid (uK (word k c b s g) = k ∧ uC (word k c b s g) = c ∧ uB (word k c b s g) = b ∧ uS (word k c b s g) = s ∧ uG (word k c b s g) = g ∧ uE (word k c b s g) = 0) := Lib.hid (by
    have h1 := un_yes (word_isW hm)
    have h2 := word_parts hm
    exact ⟨h1.1.trans h2.1, h1.2.1.trans h2.2.1, h1.2.2.1.trans h2.2.2.1, h1.2.2.2.1.trans h2.2.2.2.1, h1.2.2.2.2.1.trans h2.2.2.2.2, h1.2.2.2.2.2⟩)
  generalize word k c b s g = v at *
  have HI := Lib.hid (un_no hi)
  have HJ : Hid (pkW 0 0 false 0 0 = 0 ∧ pkE 0 0 false 0 0 = 0) := Lib.hid (by decide)
  clear hT hw hm hi
  go_enter Tryd.func6, Tryd.ntmps6
  go_wp2_with fail
  refine (awake_any _ (HT.out.below (by go_grown))).mono ?_
  rintro e' w_h1 ⟨rfl, h1⟩
  have H1 := Lib.hid (bOn (by go_grown) h1 : Below W.heap.size W w_h1)
  have HX1 := Lib.hid ((St.new W k c b s g).below h1 (by simp))
  clear h1
  obtain ⟨⟨x0, x1, x2, x3, x4⟩, -, hx⟩ := HX1.out.all
  go_wp2_with fail
  refine (pack_any k c b s g _ (HT.out.below H1.out)).mono ?_
  rintro e' w_h2 ⟨rfl, h2⟩
  rw [HP.out.1, HP.out.2]
  have H2 := Lib.hid (bOn H1.out h2)
  have HX2 := Lib.hid (HX1.out.below h2 HX1.out.lt)
  clear h2 x0 x1 x2 x3 x4 hx H1 HX1
  go_wp2_with fail
  refine (unpack_any v HV.out _ (HT.out.below H2.out)).mono ?_
  rintro e' w_h3 ⟨rfl, h3⟩
  rw [HQ.out.1, HQ.out.2.1, HQ.out.2.2.1, HQ.out.2.2.2.1, HQ.out.2.2.2.2.1, HQ.out.2.2.2.2.2]
  have H3 := Lib.hid (bOn H2.out h3)
  have HX3 := Lib.hid (HX2.out.below h3 HX2.out.lt)
  clear h3 H2 HX2
  obtain ⟨⟨x0, x1, x2, x3, x4⟩, -, hx⟩ := HX3.out.all
  have hne : W.heap.size ≠ w_h3.heap.size := by omega
  have hne' : w_h3.heap.size ≠ W.heap.size := by omega
  go_wp2_with fail
  refine (unpack_any w HU.out _ (HT.out.below (bOn H3.out (by go_grown)))).mono ?_
  rintro e' w_h4 ⟨rfl, h4⟩
  rw [HI.out.1, HI.out.2.1, HI.out.2.2.1, HI.out.2.2.2.1, HI.out.2.2.2.2.1, HI.out.2.2.2.2.2]
  have H4 := Lib.hid (bOn H3.out (bOn (by go_grown) h4) : Below W.heap.size W w_h4)
  clear h4 x0 x1 x2 x3 x4 hx hne hne' H3 HX3
  go_wp2_with fail
  refine (pack_any 0 0 false 0 0 _ (HT.out.below (bOn H4.out (by go_grown)))).mono ?_
  rintro e' w_h5 ⟨rfl, h5⟩
  rw [HJ.out.1, HJ.out.2]
  have H5 := Lib.hid (bOn H4.out (bOn (by go_grown) h5) : Below W.heap.size W w_h5)
  have HX5 := Lib.hid ((St.new w_h4 0 0 false 0 0).below h5 (by simp))
  clear h5
  obtain ⟨⟨x0, x1, x2, x3, x4⟩, -, hx⟩ := HX5.out.all
  have ew : (w == w) = true := by simp
  go_wp2
  go_ret
  exact ⟨rfl, H5.out⟩

set_option maxRecDepth 100000 in
set_option maxHeartbeats 4000000 in
theorem walk01 (k c : Int) (b : Bool) (s g w : Int) (hw : U w) (hm : ¬ may k c b s g) (hi : isW w) (W : World) (hT : Tab W) :
    Calls Tryd.prog 6 #[.agg #[.int .i64 k, .int .i64 c, .bool b, .int .i64 s, .int .i64 g], .int .u64 w] W fun e w' => e = .returned (.bool true) ∧ Below W.heap.size W w' := by
  have HT := Lib.hid hT
  have HU := Lib.hid hw
  have HP := Lib.hid (pk_no hm)
  have HV : Hid (U 0) := Lib.hid (by unfold U; omega)
  have HQ : Hid (uK 0 = 0 ∧ uC 0 = 0 ∧ uB 0 = false ∧ uS 0 = 0 ∧ uG 0 = 0 ∧ uE 0 = 0) := Lib.hid (by decide)
  have HI := Lib.hid (un_yes hi)
  have HJ : Hid (pkW (K w) (C w) (B w) (S w) (G w) = w ∧ pkE (K w) (C w) (B w) (S w) (G w) = 0) := Lib.hid (by
    have h1 := pk_yes (parts_may hi)
    exact ⟨h1.1.trans (parts_word hi), h1.2⟩)
  generalize K w = k' at *
  generalize C w = c' at *
  generalize B w = b' at *
  generalize S w = s' at *
  generalize G w = g' at *
  clear hT hw hm hi
  go_enter Tryd.func6, Tryd.ntmps6
  go_wp2_with fail
  refine (awake_any _ (HT.out.below (by go_grown))).mono ?_
  rintro e' w_h1 ⟨rfl, h1⟩
  have H1 := Lib.hid (bOn (by go_grown) h1 : Below W.heap.size W w_h1)
  have HX1 := Lib.hid ((St.new W k c b s g).below h1 (by simp))
  clear h1
  obtain ⟨⟨x0, x1, x2, x3, x4⟩, -, hx⟩ := HX1.out.all
  go_wp2_with fail
  refine (pack_any k c b s g _ (HT.out.below H1.out)).mono ?_
  rintro e' w_h2 ⟨rfl, h2⟩
  rw [HP.out.1, HP.out.2]
  have H2 := Lib.hid (bOn H1.out h2)
  have HX2 := Lib.hid (HX1.out.below h2 HX1.out.lt)
  clear h2 x0 x1 x2 x3 x4 hx H1 HX1
  go_wp2_with fail
  refine (unpack_any 0 HV.out _ (HT.out.below H2.out)).mono ?_
  rintro e' w_h3 ⟨rfl, h3⟩
  rw [HQ.out.1, HQ.out.2.1, HQ.out.2.2.1, HQ.out.2.2.2.1, HQ.out.2.2.2.2.1, HQ.out.2.2.2.2.2]
  have H3 := Lib.hid (bOn H2.out h3)
  have HX3 := Lib.hid (HX2.out.below h3 HX2.out.lt)
  clear h3 H2 HX2
  obtain ⟨⟨x0, x1, x2, x3, x4⟩, -, hx⟩ := HX3.out.all
  have hne : W.heap.size ≠ w_h3.heap.size := by omega
  have hne' : w_h3.heap.size ≠ W.heap.size := by omega
  go_wp2_with fail
  refine (unpack_any w HU.out _ (HT.out.below (bOn H3.out (by go_grown)))).mono ?_
  rintro e' w_h4 ⟨rfl, h4⟩
  rw [HI.out.1, HI.out.2.1, HI.out.2.2.1, HI.out.2.2.2.1, HI.out.2.2.2.2.1, HI.out.2.2.2.2.2]
  have H4 := Lib.hid (bOn H3.out (bOn (by go_grown) h4) : Below W.heap.size W w_h4)
  clear h4 x0 x1 x2 x3 x4 hx hne hne' H3 HX3
  go_wp2_with fail
  refine (pack_any k' c' b' s' g' _ (HT.out.below (bOn H4.out (by go_grown)))).mono ?_
  rintro e' w_h5 ⟨rfl, h5⟩
  rw [HJ.out.1, HJ.out.2]
  have H5 := Lib.hid (bOn H4.out (bOn (by go_grown) h5) : Below W.heap.size W w_h5)
  have HX5 := Lib.hid ((St.new w_h4 k' c' b' s' g').below h5 (by simp))
  clear h5
  obtain ⟨⟨x0, x1, x2, x3, x4⟩, -, hx⟩ := HX5.out.all
  have ew : (w == w) = true := by simp
  go_wp2
  go_ret
  exact ⟨rfl, H5.out⟩

set_option maxRecDepth 100000 in
set_option maxHeartbeats 4000000 in
theorem walk00 (k c : Int) (b : Bool) (s g w : Int) (hw : U w) (hm : ¬ may k c b s g) (hi : ¬ isW w) (W : World) (hT : Tab W) :
    Calls Tryd.prog 6 #[.agg #[.int .i64 k, .int .i64 c, .bool b, .int .i64 s, .int .i64 g], .int .u64 w] W fun e w' => e = .returned (.bool true) ∧ Below W.heap.size W w' := by
  have HT := Lib.hid hT
  have HU := Lib.hid hw
  have HP := Lib.hid (pk_no hm)
  have HV : Hid (U 0) := Lib.hid (by unfold U; omega)
  have HQ : Hid (uK 0 = 0 ∧ uC 0 = 0 ∧ uB 0 = false ∧ uS 0 = 0 ∧ uG 0 = 0 ∧ uE 0 = 0) := Lib.hid (by decide)
  have HI := Lib.hid (un_no hi)
  have HJ : Hid (pkW 0 0 false 0 0 = 0 ∧ pkE 0 0 false 0 0 = 0) := Lib.hid (by decide)
  clear hT hw hm hi
  go_enter Tryd.func6, Tryd.ntmps6
  go_wp2_with fail
  refine (awake_any _ (HT.out.below (by go_grown))).mono ?_
  rintro e' w_h1 ⟨rfl, h1⟩
  have H1 := Lib.hid (bOn (by go_grown) h1 : Below W.heap.size W w_h1)
  have HX1 := Lib.hid ((St.new W k c b s g).below h1 (by simp))
  clear h1
  obtain ⟨⟨x0, x1, x2, x3, x4⟩, -, hx⟩ := HX1.out.all
  go_wp2_with fail
  refine (pack_any k c b s g _ (HT.out.below H1.out)).mono ?_
  rintro e' w_h2 ⟨rfl, h2⟩
  rw [HP.out.1, HP.out.2]
  have H2 := Lib.hid (bOn H1.out h2)
  have HX2 := Lib.hid (HX1.out.below h2 HX1.out.lt)
  clear h2 x0 x1 x2 x3 x4 hx H1 HX1
  go_wp2_with fail
  refine (unpack_any 0 HV.out _ (HT.out.below H2.out)).mono ?_
  rintro e' w_h3 ⟨rfl, h3⟩
  rw [HQ.out.1, HQ.out.2.1, HQ.out.2.2.1, HQ.out.2.2.2.1, HQ.out.2.2.2.2.1, HQ.out.2.2.2.2.2]
  have H3 := Lib.hid (bOn H2.out h3)
  have HX3 := Lib.hid (HX2.out.below h3 HX2.out.lt)
  clear h3 H2 HX2
  obtain ⟨⟨x0, x1, x2, x3, x4⟩, -, hx⟩ := HX3.out.all
  have hne : W.heap.size ≠ w_h3.heap.size := by omega
  have hne' : w_h3.heap.size ≠ W.heap.size := by omega
  go_wp2_with fail
  refine (unpack_any w HU.out _ (HT.out.below (bOn H3.out (by go_grown)))).mono ?_
  rintro e' w_h4 ⟨rfl, h4⟩
  rw [HI.out.1, HI.out.2.1, HI.out.2.2.1, HI.out.2.2.2.1, HI.out.2.2.2.2.1, HI.out.2.2.2.2.2]
  have H4 := Lib.hid (bOn H3.out (bOn (by go_grown) h4) : Below W.heap.size W w_h4)
  clear h4 x0 x1 x2 x3 x4 hx hne hne' H3 HX3
  go_wp2_with fail
  refine (pack_any 0 0 false 0 0 _ (HT.out.below (bOn H4.out (by go_grown)))).mono ?_
  rintro e' w_h5 ⟨rfl, h5⟩
  rw [HJ.out.1, HJ.out.2]
  have H5 := Lib.hid (bOn H4.out (bOn (by go_grown) h5) : Below W.heap.size W w_h5)
  have HX5 := Lib.hid ((St.new w_h4 0 0 false 0 0).below h5 (by simp))
  clear h5
  obtain ⟨⟨x0, x1, x2, x3, x4⟩, -, hx⟩ := HX5.out.all
  have ew : (w == w) = true := by simp
  go_wp2
  go_ret
  exact ⟨rfl, H5.out⟩

theorem walk (k c : Int) (b : Bool) (s g w : Int) (_ : (Lit.int .i64 k).wf = true) (_ : (Lit.int .i64 c).wf = true) (_ : (Lit.int .i64 s).wf = true) (_ : (Lit.int .i64 g).wf = true) (hw : (Lit.int .u64 w).wf = true) (W : World) (hT : Tab W) :
    Calls Tryd.prog 6 #[.agg #[.int .i64 k, .int .i64 c, .bool b, .int .i64 s, .int .i64 g], .int .u64 w] W fun e w' => e = .returned (.bool true) ∧ Below W.heap.size W w' := by
  have hU := pkU_of_wf hw
  by_cases hm : may k c b s g
  · by_cases hi : isW w
    · exact walk11 k c b s g w hU hm hi W hT
    · exact walk10 k c b s g w hU hm hi W hT
  · by_cases hi : isW w
    · exact walk01 k c b s g w hU hm hi W hT
    · exact walk00 k c b s g w hU hm hi W hT

theorem met (os : Os) : laidMet Tryd.prog Rows.packedBackRow.laid ((laidWorld os).forCall (fun _ _ => 0) ⟨#[], #[.agg #[Value.int .i64 0, Value.int .i64 0, Value.bool false, Value.int .i64 0, Value.int .i64 0], .int .u64 0], []⟩).memory := laidMet_of_run' 8 (by kernel_rfl) (by kernel_rfl)
theorem reads (os : Os) {H : Type} (enc : TypeId × Value → H) : ∃ ps, DataW.whole enc Tryd.prog ((laidWorld os).forCall (fun _ _ => 0) ⟨#[], #[.agg #[Value.int .i64 0, Value.int .i64 0, Value.bool false, Value.int .i64 0, Value.int .i64 0], .int .u64 0], []⟩).memory Tryd.f6.params.toList Rows.packedBackSpec.vars false #[Value.agg #[Value.int .i64 0, Value.int .i64 0, Value.bool false, Value.int .i64 0, Value.int .i64 0], Value.int .u64 0].toList 8 = some ([.agg [.lit (.int .i64 0), .lit (.int .i64 0), .lit (.bool false), .lit (.int .i64 0), .lit (.int .i64 0)], .lit (.int .u64 0)], [], ps) := ⟨[], by kernel_rfl⟩
set_option maxRecDepth 100000 in
theorem lifted (os : Os) (started : os.Started) (H : Type) (enc : TypeId × Value → H) (F : Stop.Interp) :
    ReturnsInHanded {} Tryd.checked os 6 .any ((OpenSpec.ofChange Rows.packedBackSpec).preRow enc Tryd.prog Tryd.f6 Rows.packedBackRow.domain false Rows.packedBackRow.laid) (((OpenSpec.ofChange Rows.packedBackSpec).at F).post enc Tryd.prog Tryd.f6 false true false false) := by
  obtain ⟨ps, hx⟩ := reads os enc
  refine returnsInHanded_of_row (C := Tryd.checked) (s := OpenSpec.ofChange Rows.packedBackSpec) own started (by kernel_rfl) Tryd.func6 (witness_row_at (enc := enc) (C := Tryd.checked) false (laidWorld os) #[.agg #[Value.int .i64 0, Value.int .i64 0, Value.bool false, Value.int .i64 0, Value.int .i64 0], .int .u64 0] rfl (by kernel_rfl) (by kernel_rfl) (by kernel_rfl) (OpenSpec.preRow_of_cond 8 hx (by kernel_rfl) (fun k hk => by cases hk) (by kernel_rfl) (met os))) ?_
  intro W base args ds gs before hval0 hW _ _ _ hL _ _
  have hval : ∀ (j : Nat) t v, Tryd.f6.params[j]? = some t → args[j]? = some v → Value.okWide Tryd.prog W .any base t v := hval0
  have hW' := hW
  obtain ⟨p, q, hA0, hV, rfl, -, -⟩ := hW
  have hA : DataW.TrodAll enc Tryd.prog W 0 (fun _ => true) true Tryd.f6.params.toList args.toList ds p := hA0
  rw [Tryd.params6] at hA hval
  obtain ⟨v0, vs0, d0, ds0, p0, q0, hargs, rfl, rfl, h0, r0⟩ := trodAll_cons hA
  obtain ⟨v1, vs1, d1, ds1, p1, q1, rfl, rfl, rfl, h1, r1⟩ := trodAll_cons r0
  obtain ⟨rfl, rfl, rfl⟩ := trodAll_nil r1
  obtain rfl : args = #[v0, v1] := by cases args; simp_all
  obtain ⟨rfl, rfl⟩ := trodVars_none hV
  obtain ⟨cs0, rfl, hl0, hf0⟩ := fields_arg Tryd.underlying23 (by kernel_rfl) (by kernel_rfl) (hval 0 23 v0 rfl rfl) h0
  obtain ⟨c0_0, c0_1, c0_2, c0_3, c0_4, rfl⟩ := list5 hl0
  obtain ⟨_, _, t0_0⟩ := hf0 0 _ _ rfl rfl
  obtain ⟨a0_0, e0_0, -, w0_0⟩ := DataW.trod_int Tryd.underlying3 t0_0
  obtain rfl := (List.cons.inj e0_0).1
  obtain ⟨_, _, t0_1⟩ := hf0 1 _ _ rfl rfl
  obtain ⟨a0_1, e0_1, -, w0_1⟩ := DataW.trod_int Tryd.underlying3 t0_1
  obtain rfl := (List.cons.inj e0_1).1
  obtain ⟨_, _, t0_2⟩ := hf0 2 _ _ rfl rfl
  obtain ⟨a0_2, e0_2, -⟩ := DataW.trod_bool Tryd.underlying4 t0_2
  obtain rfl := (List.cons.inj e0_2).1
  obtain ⟨_, _, t0_3⟩ := hf0 3 _ _ rfl rfl
  obtain ⟨a0_3, e0_3, -, w0_3⟩ := DataW.trod_int Tryd.underlying3 t0_3
  obtain rfl := (List.cons.inj e0_3).1
  obtain ⟨_, _, t0_4⟩ := hf0 4 _ _ rfl rfl
  obtain ⟨a0_4, e0_4, -, w0_4⟩ := DataW.trod_int Tryd.underlying3 t0_4
  obtain rfl := (List.cons.inj e0_4).1
  clear hf0 hl0
  obtain ⟨a1, rfl, rfl, rfl, w1⟩ := open_int Tryd.underlying24 (hval 1 24 v1 rfl rfl) h1
  clear hA0 hval0
  refine (walk a0_0 a0_1 a0_2 a0_3 a0_4 a1 w0_0 w0_1 w0_3 w0_4 w1 W (tab_laid hL)).mono fun e W' ⟨he, hb⟩ => ?_
  subst he
  exact ⟨_, rfl, post_law laidOut (by kernel_rfl) rfl (by kernel_rfl) Tryd.underlying4 hW' rfl hb⟩

theorem row : Rows.PackedBackSaid :=
  OpenClaim.holds_of_cond 6 Tryd.f6 rfl rfl rfl rfl rfl rfl rfl ⟨rfl, rfl, rfl, rfl, rfl⟩ rfl rfl rfl rfl rfl (by kernel_rfl) Tryd.func6 (by kernel_rfl)
    (of_decide_eq_true (by kernel_rfl)) (by unfold Func.isWrapper; first | (rw [if_pos (by decide +kernel)]; kernel_rfl) | (rw [if_neg (by decide +kernel)]; exact ⟨rfl, rfl⟩))
    (fun os started H enc _ F => by rw [OpenClaim.pre_eq_preRow]; exact lifted os started H enc F)
theorem simple (f : FuncId) (fn : Func) (hf : Tryd.pinned.checked.prog.funcNamed Rows.packedBackRow.func = some f) (hfn : Tryd.pinned.checked.prog.funcs[f]? = some fn) :
    false = Tryd.pinned.checked.prog.looks [] ∧ ∀ (j : Nat) t, fn.params[j]? = some t → Tryd.pinned.checked.prog.wantsStandIn t = false := by
  have e1 : Tryd.prog.funcNamed Rows.packedBackRow.func = some 6 := by kernel_rfl
  cases e1.symm.trans hf
  cases Tryd.func6.symm.trans hfn
  exact ⟨by kernel_rfl, no_stand (P := Tryd.prog) (by kernel_rfl)⟩
/-- **PackedBack**: the given statement, a tied card. -/
theorem proved : Rows.PackedBackCardSaid :=
  Claim7.holds_tied_plain_at .later [] _ _ _ _ row (fun _ h => by cases h) (by kernel_rfl) (fun _ h => by cases h) packedBack_row_tie rfl ⟨rfl, rfl⟩ (by kernel_rfl) rfl simple (by kernel_rfl)

end Go.Proofs.YthkgfnkkmbhnjaaDoor.packedBack
