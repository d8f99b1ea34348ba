/-
  LocksTells returns true at every input, and turns nothing that was there: what comes of taking a lock, giving it back, of new locks and of a pair of them is what the document says.
-/
import Derived.Test.YthbabhmpkniliaaLkC
import Derived.Test.YthbabhmpkniliaaLkW
import Derived.Test.YthbabhmpkniliaaAggS
import Derived.Test.YthbabhmpkniliaaPost
namespace Go.Proofs.Ythbabhmpkniliaa.locksTells
open Go.ChangeShapes Go.WideShapes Go.ChangeAt Go.RowKit Lk

/-- Cells that hold lists. -/
def Has (w : World) (L : List (Addr × Value × List Int)) : Prop := ∀ q ∈ L, w.cell? q.1 = some q.2.1 ∧ Ints .i64 w q.2.1 q.2.2
theorem Has.up {w w' : World} {L : List (Addr × Value × List Int)} (h : Has w L) (hb : Below w.heap.size w w') : Has w' L := fun q hq =>
  ⟨(hb.cell (World.block_lt_of_cell? w _ (h q hq).1)).trans (h q hq).1, (h q hq).2.below hb⟩
theorem Has.put {w : World} {L : List (Addr × Value × List Int)} {x : Value} {l : List Int} (t : TypeId) (h : Has w L) (hx : Ints .i64 w x l) : Has (w.alloc (.cells #[x] t)) ((⟨w.heap.size, 0, none⟩, x, l) :: L) := by
  have hb := (Below.refl w.heap.size w).alloc (Nat.le_refl _) (.cells #[x] t)
  intro q hq
  rcases List.mem_cons.1 hq with rfl | hq
  · exact ⟨(at_new w x t).1, hx.below hb⟩
  · exact h.up hb q hq

/-- What is told, to be read. -/
def Told (W : World) (E : Int) (l : List Int) (e : Ending) (w' : World) : Prop :=
  ∃ a c, e = .returned (.tuple #[.agg #[.slice a l.length c], .int .i64 E]) ∧ Ints .i64 w' (.slice a l.length c) l ∧ Below W.heap.size W w'
theorem took_told {W w' : World} {E : Int} {l : List Int} {e : Ending} (hl : ∀ z ∈ l, (Lit.int .i64 z).wf = true) (h : Took W E l e w') : Told W E l e w' := by
  obtain ⟨⟨v', rfl, hO⟩, hb⟩ := h
  obtain ⟨a, c, rfl⟩ := own_shape0 hO
  exact ⟨a, c, rfl, hO.ints hl, hb⟩

theorem takeL_wf {l : List Int} {lock who : Int} (h : ∀ z ∈ l, (Lit.int .i64 z).wf = true) (hw : (Lit.int .i64 who).wf = true) : ∀ z ∈ takeL l lock who, (Lit.int .i64 z).wf = true := by
  unfold takeL
  intro z hz
  split at hz
  · rcases List.mem_or_eq_of_mem_set hz with h1 | rfl
    · exact h z h1
    · exact hw
  · simp at hz
theorem giveL_wf {l : List Int} {lock who : Int} (h : ∀ z ∈ l, (Lit.int .i64 z).wf = true) : ∀ z ∈ giveL l lock who, (Lit.int .i64 z).wf = true := by
  unfold giveL
  intro z hz
  split at hz
  · rcases List.mem_or_eq_of_mem_set hz with h1 | rfl
    · exact h z h1
    · decide
  · simp at hz
theorem newL_wf {n : Int} : ∀ z ∈ newL n, (Lit.int .i64 z).wf = true := by
  unfold newL
  intro z hz
  split at hz
  · rw [List.eq_of_mem_replicate hz]; decide
  · simp at hz

set_option maxRecDepth 100000 in
set_option maxHeartbeats 4000000 in
theorem walkG (l : List Int) (lock who : Int) (hlen : l.length ≤ 100) (E1 E2 E3 mn mx : Int) (L1 L2 L3 : List Int)
    (T1 : ∀ (w : World) (v : Value), Ints .i64 w v l → Calls Try.prog 11 #[.agg #[v], .int .i64 lock, .int .i64 who] w (Told w E1 L1))
    (R1 : ∀ (w : World) (v : Value), Ints .i64 w v l → Calls Try.prog 12 #[.agg #[v], .int .i64 lock, .int .i64 who] w (Told w E1 L1))
    (T2 : ∀ (w : World) (v : Value), Ints .i64 w v l → Calls Try.prog 13 #[.agg #[v], .int .i64 lock, .int .i64 who] w (Told w E2 L2))
    (R2 : ∀ (w : World) (v : Value), Ints .i64 w v l → Calls Try.prog 14 #[.agg #[v], .int .i64 lock, .int .i64 who] w (Told w E2 L2))
    (T3 : ∀ (w : World), Calls Try.prog 15 #[.int .i64 lock] w (Told w E3 L3))
    (R3 : ∀ (w : World), Calls Try.prog 16 #[.int .i64 lock] w (Told w E3 L3))
    (T4 : ∀ (w : World), Calls Try.prog 17 #[.int .i64 lock, .int .i64 who] w fun e w' => e = .returned (.tuple #[.int .i64 mn, .int .i64 mx]) ∧ w' = w)
    (R4 : ∀ (w : World), Calls Try.prog 18 #[.int .i64 lock, .int .i64 who] w fun e w' => e = .returned (.tuple #[.int .i64 mn, .int .i64 mx]) ∧ w' = w)
    (a : Option Addr) (cap : Nat) (W : World) (h : Ints .i64 W (.slice a l.length cap) l) :
    Calls Try.prog 3 #[.agg #[.slice a l.length cap], .int .i64 lock, .int .i64 who] W fun e w' => e = .returned (.bool true) ∧ Below W.heap.size W w' := by
  have hg : ¬ (l.length : Int) > 100 := by omega
  have HX0 : Hid (Has (W.alloc (.cells #[.slice a l.length cap] 24)) [(⟨W.heap.size, 0, none⟩, .slice a l.length cap, l)]) := Lib.hid (Has.put _ (fun q hq => by simp at hq) h)
  have HB0 := Lib.hid ((Below.refl W.heap.size W).alloc (Nat.le_refl _) (.cells #[.slice a l.length cap] 24))
  have HT1 := Lib.hid T1
  have HT2 := Lib.hid T2
  have HT3 := Lib.hid T3
  have HT4 := Lib.hid T4
  have HR1 := Lib.hid R1
  have HR2 := Lib.hid R2
  have HR3 := Lib.hid R3
  have HR4 := Lib.hid R4
  have e1 : (E1 == E1) = true := by simp
  have e2 : (E2 == E2) = true := by simp
  have e3 : (E3 == E3) = true := by simp
  have e4 : (mn == mn) = true := by simp
  have e5 : (mx == mx) = true := by simp
  clear T1 T2 T3 T4 R1 R2 R3 R4 h
  go_enter Try.func3, Try.ntmps3
  have hc := (HX0.out (⟨W.heap.size, 0, none⟩, .slice a l.length cap, l) (.head _)).1
  go_wp2_with fail
  refine (HT1.out _ _ (HX0.out (⟨W.heap.size, 0, none⟩, .slice a l.length cap, l) (.head _)).2).mono ?_
  rintro e w1 ⟨a1, c1, rfl, hi, hb⟩
  have HX1 := Lib.hid ((HX0.out.up hb).put 24 hi)
  have HB1 := Lib.hid ((bOn HB0.out hb).alloc (bOn HB0.out hb).size (.cells #[.slice a1 L1.length c1] 24))
  clear hi hb hc HX0 HB0
  have hc := (HX1.out (⟨W.heap.size, 0, none⟩, .slice a l.length cap, l) (.tail _ (.head _))).1
  go_wp2_with fail
  refine (HR1.out _ _ (HX1.out (⟨W.heap.size, 0, none⟩, .slice a l.length cap, l) (.tail _ (.head _))).2).mono ?_
  rintro e w2 ⟨a2, c2, rfl, hi, hb⟩
  have HX2 := Lib.hid ((HX1.out.up hb).put 24 hi)
  have HB2 := Lib.hid ((bOn HB1.out hb).alloc (bOn HB1.out hb).size (.cells #[.slice a2 L1.length c2] 24))
  clear hi hb hc HX1 HB1
  have hc := (HX2.out (⟨W.heap.size, 0, none⟩, .slice a l.length cap, l) (.tail _ (.tail _ (.head _)))).1
  go_wp2_with fail
  refine (HT2.out _ _ (HX2.out (⟨W.heap.size, 0, none⟩, .slice a l.length cap, l) (.tail _ (.tail _ (.head _)))).2).mono ?_
  rintro e w3 ⟨a3, c3, rfl, hi, hb⟩
  have HX3 := Lib.hid ((HX2.out.up hb).put 24 hi)
  have HB3 := Lib.hid ((bOn HB2.out hb).alloc (bOn HB2.out hb).size (.cells #[.slice a3 L2.length c3] 24))
  clear hi hb hc HX2 HB2
  have hc := (HX3.out (⟨W.heap.size, 0, none⟩, .slice a l.length cap, l) (.tail _ (.tail _ (.tail _ (.head _))))).1
  go_wp2_with fail
  refine (HR2.out _ _ (HX3.out (⟨W.heap.size, 0, none⟩, .slice a l.length cap, l) (.tail _ (.tail _ (.tail _ (.head _))))).2).mono ?_
  rintro e w4 ⟨a4, c4, rfl, hi, hb⟩
  have HX4 := Lib.hid ((HX3.out.up hb).put 24 hi)
  have HB4 := Lib.hid ((bOn HB3.out hb).alloc (bOn HB3.out hb).size (.cells #[.slice a4 L2.length c4] 24))
  clear hi hb hc HX3 HB3
  go_wp2_with fail
  refine (HT3.out _).mono ?_
  rintro e w5 ⟨a5, c5, rfl, hi, hb⟩
  have HX5 := Lib.hid ((HX4.out.up hb).put 24 hi)
  have HB5 := Lib.hid ((bOn HB4.out hb).alloc (bOn HB4.out hb).size (.cells #[.slice a5 L3.length c5] 24))
  clear hi hb HX4 HB4
  go_wp2_with fail
  refine (HR3.out _).mono ?_
  rintro e w6 ⟨a6, c6, rfl, hi, hb⟩
  have HX6 := Lib.hid ((HX5.out.up hb).put 24 hi)
  have HB6 := Lib.hid ((bOn HB5.out hb).alloc (bOn HB5.out hb).size (.cells #[.slice a6 L3.length c6] 24))
  clear hi hb HX5 HB5
  go_wp2_with fail
  refine (HT4.out _).mono ?_
  rintro e _ ⟨rfl, rfl⟩
  go_wp2_with fail
  refine (HR4.out _).mono ?_
  rintro e _ ⟨rfl, rfl⟩
  obtain ⟨w0, hw0⟩ : ∃ w0, w0 = w6.alloc (.cells #[.slice a6 L3.length c6] 24) := ⟨_, rfl⟩
  have HW0 := Lib.hid hw0
  rw [← hw0] at HX6 HB6
  clear hw0
  have HSX : Hid (∀ X, Below w0.heap.size w0 X → (X.cell? ⟨w1.heap.size, 0, none⟩ = some (.slice a1 L1.length c1) ∧ X.cell? ⟨w2.heap.size, 0, none⟩ = some (.slice a2 L1.length c2) ∧ X.cell? ⟨w3.heap.size, 0, none⟩ = some (.slice a3 L2.length c3) ∧ X.cell? ⟨w4.heap.size, 0, none⟩ = some (.slice a4 L2.length c4) ∧ X.cell? ⟨w5.heap.size, 0, none⟩ = some (.slice a5 L3.length c5) ∧ X.cell? ⟨w6.heap.size, 0, none⟩ = some (.slice a6 L3.length c6))) := Lib.hid (fun X hX =>
    ⟨((HX6.out.up hX) (⟨w1.heap.size, 0, none⟩, .slice a1 L1.length c1, L1) (.tail _ (.tail _ (.tail _ (.tail _ (.tail _ (.head _))))))).1, ((HX6.out.up hX) (⟨w2.heap.size, 0, none⟩, .slice a2 L1.length c2, L1) (.tail _ (.tail _ (.tail _ (.tail _ (.head _)))))).1, ((HX6.out.up hX) (⟨w3.heap.size, 0, none⟩, .slice a3 L2.length c3, L2) (.tail _ (.tail _ (.tail _ (.head _))))).1, ((HX6.out.up hX) (⟨w4.heap.size, 0, none⟩, .slice a4 L2.length c4, L2) (.tail _ (.tail _ (.head _)))).1, ((HX6.out.up hX) (⟨w5.heap.size, 0, none⟩, .slice a5 L3.length c5, L3) (.tail _ (.head _))).1, ((HX6.out.up hX) (⟨w6.heap.size, 0, none⟩, .slice a6 L3.length c6, L3) (.head _)).1⟩)
  have HI1 : Hid (∀ X, Below w0.heap.size w0 X → Ints .i64 X (.slice a1 L1.length c1) L1) := Lib.hid (fun X hX => ((HX6.out.up hX) (⟨w1.heap.size, 0, none⟩, .slice a1 L1.length c1, L1) (.tail _ (.tail _ (.tail _ (.tail _ (.tail _ (.head _))))))).2)
  have HI2 : Hid (∀ X, Below w0.heap.size w0 X → Ints .i64 X (.slice a2 L1.length c2) L1) := Lib.hid (fun X hX => ((HX6.out.up hX) (⟨w2.heap.size, 0, none⟩, .slice a2 L1.length c2, L1) (.tail _ (.tail _ (.tail _ (.tail _ (.head _)))))).2)
  have HI3 : Hid (∀ X, Below w0.heap.size w0 X → Ints .i64 X (.slice a3 L2.length c3) L2) := Lib.hid (fun X hX => ((HX6.out.up hX) (⟨w3.heap.size, 0, none⟩, .slice a3 L2.length c3, L2) (.tail _ (.tail _ (.tail _ (.head _))))).2)
  have HI4 : Hid (∀ X, Below w0.heap.size w0 X → Ints .i64 X (.slice a4 L2.length c4) L2) := Lib.hid (fun X hX => ((HX6.out.up hX) (⟨w4.heap.size, 0, none⟩, .slice a4 L2.length c4, L2) (.tail _ (.tail _ (.head _)))).2)
  have HI5 : Hid (∀ X, Below w0.heap.size w0 X → Ints .i64 X (.slice a5 L3.length c5) L3) := Lib.hid (fun X hX => ((HX6.out.up hX) (⟨w5.heap.size, 0, none⟩, .slice a5 L3.length c5, L3) (.tail _ (.head _))).2)
  have HI6 : Hid (∀ X, Below w0.heap.size w0 X → Ints .i64 X (.slice a6 L3.length c6) L3) := Lib.hid (fun X hX => ((HX6.out.up hX) (⟨w6.heap.size, 0, none⟩, .slice a6 L3.length c6, L3) (.head _)).2)
  clear HX6
  rw [← HW0.out]
  clear HW0
  go_wp2_with fail
  refine (awake_any _).mono ?_
  rintro e wA ⟨rfl, hbA⟩
  have HBA := Lib.hid hbA
  obtain ⟨x1, x2, x3, x4, x5, x6⟩ := HSX.out _ HBA.out
  clear hbA
  go_wp2_with fail
  refine (rints_same _ _ L1 _ (HI1.out _ HBA.out) (HI2.out _ HBA.out)).mono ?_
  rintro e wI ⟨rfl, hbI⟩
  have HBI := Lib.hid (bOn HBA.out hbI)
  clear x1 x2 x3 x4 x5 x6 hbI
  obtain ⟨x1, x2, x3, x4, x5, x6⟩ := HSX.out _ HBI.out
  go_wp2_with fail
  refine (rints_same _ _ L2 _ (HI3.out _ HBI.out) (HI4.out _ HBI.out)).mono ?_
  rintro e wJ ⟨rfl, hbJ⟩
  have HBJ := Lib.hid (bOn HBI.out hbJ)
  clear x1 x2 x3 x4 x5 x6 hbJ
  obtain ⟨x1, x2, x3, x4, x5, x6⟩ := HSX.out _ HBJ.out
  go_wp2_with fail
  refine (rints_same _ _ L3 _ (HI5.out _ HBJ.out) (HI6.out _ HBJ.out)).mono ?_
  rintro e wK ⟨rfl, hbK⟩
  have HBK := Lib.hid (bOn HBJ.out hbK)
  clear x1 x2 x3 x4 x5 x6 hbK
  go_wp2
  go_ret
  exact ⟨rfl, bOn HB6.out HBK.out⟩

set_option maxRecDepth 100000 in
set_option maxHeartbeats 2000000 in
theorem walk (c : Value) (l : List Int) (lock who : Int) (W : World) (h : Ints .i64 W c l) (_hk : (Lit.int .i64 lock).wf = true) (hw : (Lit.int .i64 who).wf = true) :
    Calls Try.prog 3 #[.agg #[c], .int .i64 lock, .int .i64 who] W fun e w' => e = .returned (.bool true) ∧ Below W.heap.size W w' := by
  have hwf : ∀ z ∈ l, (Lit.int .i64 z).wf = true := by obtain ⟨_, _, _, _, hz, _⟩ := h; exact hz
  obtain ⟨a, cap, rfl⟩ : ∃ a cap, c = .slice a l.length cap := by obtain ⟨a, cap, e, _⟩ := h; exact ⟨a, cap, e⟩
  by_cases hlen : l.length ≤ 100
  · exact walkG l lock who hlen (takeE l lock who) (giveE l lock who) (newE lock) (min lock who) (max lock who) (takeL l lock who) (giveL l lock who) (newL lock)
      (fun w v hv => (take_any hv (by omega) lock who).mono fun _ _ hq => took_told (takeL_wf hwf hw) hq)
      (fun w v hv => (rtake_any hv (by omega) lock who).mono fun _ _ hq => took_told (takeL_wf hwf hw) hq)
      (fun w v hv => (give_any hv (by omega) lock who).mono fun _ _ hq => took_told (giveL_wf hwf) hq)
      (fun w v hv => (rgive_any hv (by omega) lock who).mono fun _ _ hq => took_told (giveL_wf hwf) hq)
      (fun w => (new_any lock w).mono fun _ _ hq => took_told newL_wf hq)
      (fun w => (rnew_any lock w).mono fun _ _ hq => took_told newL_wf hq)
      (fun w => pair_any lock who w) (fun w => rpair_any lock who w) a cap W h
  · have hg : (l.length : Int) > 100 := by omega
    have HB0 := Lib.hid ((Below.refl W.heap.size W).alloc (Nat.le_refl _) (.cells #[.slice a l.length cap] 24))
    clear h hwf hw hlen
    go_enter Try.func3, Try.ntmps3
    go_wp2_with fail
    refine (awake_any _).mono ?_
    rintro e w1 ⟨rfl, hb⟩
    have HB1 := Lib.hid (bOn HB0.out hb)
    clear hb
    go_wp2
    go_ret
    exact ⟨rfl, HB1.out⟩

set_option maxRecDepth 100000 in
theorem lifted (os : Os) (started : os.Started) (H : Type) (enc : TypeId × Value → H) :
    ReturnsInHanded {} Try.checked os 3 .any (Rows.locksTellsSpec.pre6 enc Try.prog Try.f3 Rows.locksTellsRow.domain false) (Rows.locksTellsSpec.post enc Try.prog Try.f3 false true false false) := by
  refine returnsInHanded_of_change (C := Try.checked) own started (by kernel_rfl) Try.func3
    (ChangeSpec.witness6 (enc := enc) (C := Try.checked) false ⟨#[], #[.agg #[Value.slice none 0 0], .int .i64 0, .int .i64 0], []⟩ 8 (by kernel_rfl) (by kernel_rfl) (by kernel_rfl) (by kernel_rfl)) ?_
  intro W base args ds gs before hval0 hW _ _
  have hval : ∀ (j : Nat) t v, Try.f3.params[j]? = some t → args[j]? = some v → Value.okWide Try.prog W .any base t v := hval0
  have hW' := hW
  obtain ⟨p, q, hA0, hV, rfl, -, -⟩ := hW
  have hA : DataW.TrodAll enc Try.prog W 0 (fun _ => true) true Try.f3.params.toList args.toList ds p := hA0
  rw [Try.params3] at hA hval
  obtain ⟨v0, vs0, d0, ds0, p0, q0, hargs, rfl, rfl, h0, r0⟩ := trodAll_cons hA
  obtain ⟨v1, vs1, d1, ds1, p1, q1, rfl, rfl, rfl, h1, r1⟩ := trodAll_cons r0
  obtain ⟨v2, vs2, d2, ds2, p2, q2, rfl, rfl, rfl, h2, r2⟩ := trodAll_cons r1
  obtain ⟨rfl, rfl, rfl⟩ := trodAll_nil r2
  obtain rfl : args = #[v0, v1, v2] := by cases args; simp_all
  obtain ⟨rfl, rfl⟩ := trodVars_none hV
  obtain ⟨cs0, rfl, hl0, hf0⟩ := fields_arg Try.underlying24 (by kernel_rfl) (by kernel_rfl) (hval 0 24 v0 rfl rfl) h0
  obtain ⟨c0_0, rfl⟩ := list1 hl0
  obtain ⟨_, _, t0_0⟩ := hf0 0 _ _ rfl rfl
  obtain ⟨a0_0, w0_0⟩ := ints_field Try.underlying22 Try.underlying3 (by kernel_rfl) t0_0
  clear hf0 hl0
  obtain ⟨a1, rfl, rfl, rfl, w1⟩ := open_int Try.underlying3 (hval 1 3 v1 rfl rfl) h1
  obtain ⟨a2, rfl, rfl, rfl, w2⟩ := open_int Try.underlying3 (hval 2 3 v2 rfl rfl) h2
  clear hA0 hval0
  refine (walk c0_0 a0_0 a1 a2 W w0_0 w1 w2).mono fun e W' ⟨he, hb⟩ => ?_
  subst he
  exact ⟨_, rfl, post_law laidOut (by kernel_rfl) rfl (by kernel_rfl) Try.underlying4 hW' rfl hb⟩

/-- **LocksTells**: the given statement. -/
theorem proved : Rows.LocksTellsSaid :=
  OpenClaim.holds_of_wide 3 Try.f3 rfl rfl rfl rfl rfl rfl rfl ⟨rfl, rfl, rfl, rfl, rfl⟩ rfl rfl rfl rfl rfl (by kernel_rfl) Try.func3 (by kernel_rfl)
    (of_decide_eq_true (by kernel_rfl)) (by unfold Func.isWrapper; first | (rw [if_pos (by decide +kernel)]; kernel_rfl) | (rw [if_neg (by decide +kernel)]; exact ⟨rfl, rfl⟩))
    (fun os started H enc _ => lifted os started H enc)
end Go.Proofs.Ythbabhmpkniliaa.locksTells
