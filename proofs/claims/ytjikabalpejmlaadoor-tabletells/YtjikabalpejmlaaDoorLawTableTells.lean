/-
  TableTells returns true at every input, and turns nothing that was there: of any table, and any handle, it is told, and done, what the document says. The tables of math/bits and of places are tied to the program's text.
-/
import Derived.Test.YtjikabalpejmlaaDoorTlX
import Derived.Test.YtjikabalpejmlaaDoorTlQ
import Derived.Test.YtjikabalpejmlaaDoorTlP
import Derived.Test.YtjikabalpejmlaaDoorPost
namespace Go.Proofs.YtjikabalpejmlaaDoor.tableTells
open Go.ChangeShapes Go.WideShapes Go.ChangeAt Go.RowKit Pk Lf
open Mk (V)

set_option maxRecDepth 100000 in
set_option maxHeartbeats 4000000 in
theorem walk (c0 c1 : Value) (t : Tl.T) (s g c n : Int) (m : Nat) (ev : Int) (W : World) (hV : Tv W (.agg #[c0, c1]) t) (hm : V m) (hwf : (Lit.int .i64 ev).wf = true) (hO : Ok W) :
    Calls Tryd.prog 3 #[.agg #[c0, c1, .int .i64 s, .int .i64 g, .int .i64 c, .int .i64 n, .int .u64 (m : Int), .int .i64 ev]] W fun e w' => e = .returned (.bool true) ∧ Below W.heap.size W w' := by
  obtain ⟨d0, d1, e, hI, hK⟩ := id hV
  simp only [Value.agg.injEq, Array.mk.injEq, List.cons.injEq, and_true] at e
  obtain ⟨rfl, rfl⟩ := e
  obtain ⟨a0, p0, rfl, -⟩ := hI
  obtain ⟨a1, p1, rfl, hm1, -⟩ := hK
  obtain ⟨l0, hl0⟩ : ∃ l, t.ws.length = l := ⟨_, rfl⟩
  obtain ⟨l1, hl1⟩ : ∃ l, t.ts.length = l := ⟨_, rfl⟩
  rw [hl0, hl1] at hV ⊢
  have HL := Lib.hid hl0
  have hb1 := (Below.refl W.heap.size W).alloc (Nat.le_refl _) (.cells #[.slice a0 l0 p0, .slice a1 l1 p1, .int .i64 s, .int .i64 g, .int .i64 c, .int .i64 n, .int .u64 (m : Int), .int .i64 ev] 30)
  have hh : (W.alloc (.cells #[.slice a0 l0 p0, .slice a1 l1 p1, .int .i64 s, .int .i64 g, .int .i64 c, .int .i64 n, .int .u64 (m : Int), .int .i64 ev] 30)).heap[W.heap.size]? = some (.cells #[.slice a0 l0 p0, .slice a1 l1 p1, .int .i64 s, .int .i64 g, .int .i64 c, .int .i64 n, .int .u64 (m : Int), .int .i64 ev] 30) := heap_alloc_new W _
  have HV1 := Lib.hid (hV.below hb1)
  have HO1 := Lib.hid (hO.below hb1)
  have HB1 := Lib.hid hb1
  have HM := Lib.hid hm
  have HF := Lib.hid hwf
  clear hV hO hb1 hl0 hl1 hm hwf hm1
  go_enter Tryd.func3, Tryd.ntmps3
  go_upto_region 1 with fail
  generalize W.alloc _ = w1 at hh HV1 HO1 HB1 ⊢
  have HIN : Hid (∀ X, Below w1.heap.size w1 X → X.cell? ⟨W.heap.size, 0, none⟩ = some (.slice a0 l0 p0) ∧ X.cell? ⟨W.heap.size, 1, none⟩ = some (.slice a1 l1 p1) ∧ X.cell? ⟨W.heap.size, 2, none⟩ = some (.int .i64 s) ∧ X.cell? ⟨W.heap.size, 3, none⟩ = some (.int .i64 g) ∧ X.cell? ⟨W.heap.size, 4, none⟩ = some (.int .i64 c) ∧ X.cell? ⟨W.heap.size, 5, none⟩ = some (.int .i64 n) ∧ X.cell? ⟨W.heap.size, 6, none⟩ = some (.int .u64 (m : Int)) ∧ X.cell? ⟨W.heap.size, 7, none⟩ = some (.int .i64 ev)) := Lib.hid (fun X hX => by
    have h := (hX.block W.heap.size (Array.getElem?_eq_some_iff.1 hh).1).trans hh
    simp [World.cell?, h])
  clear hh
  go_wp2_with fail
  refine (awake_any w1 HO1.out).mono ?_
  rintro e' w2 ⟨rfl, hb2⟩
  have HB2 := Lib.hid hb2
  obtain ⟨x0, x1, x2, x3, x4, x5, x6, x7⟩ := HIN.out w2 hb2
  clear hb2
  by_cases h0 : l0 > 70
  · have d0 : decide ((l0 : Int) > 70) = true := decide_eq_true (by omega)
    go_wp2
    go_ret
    exact ⟨rfl, HB1.out.trans (HB2.out.mono HB1.out.size)⟩
  · have d0 : decide ((l0 : Int) > 70) = false := decide_eq_false (by omega)
    by_cases h1 : l1 > 70
    · have d1 : decide ((l1 : Int) > 70) = true := decide_eq_true (by omega)
      go_wp2
      go_ret
      exact ⟨rfl, HB1.out.trans (HB2.out.mono HB1.out.size)⟩
    · have d1 : decide ((l1 : Int) > 70) = false := decide_eq_false (by omega)
      go_wp2_with fail
      refine (told_any t _ _ s g c n m ev HM.out HF.out w2 (HV1.out.below HB2.out) (by rw [HL.out]; omega) (HO1.out.below HB2.out)).mono ?_
      rintro e' w3 ⟨rfl, hb3⟩
      have HB3 := Lib.hid (bOn HB2.out hb3)
      clear hb3 x0 x1 x2 x3 x4 x5 x6 x7
      go_wp2
      go_ret
      exact ⟨rfl, HB1.out.trans (HB3.out.mono HB1.out.size)⟩

theorem met (os : Os) : laidMet Tryd.prog Rows.tableTellsRow.laid ((laidWorld os).forCall (fun _ _ => 0) ⟨#[], #[.agg #[Value.slice none 0 0, Value.slice none 0 0, Value.int .i64 0, Value.int .i64 0, Value.int .i64 0, Value.int .i64 0, Value.int .u64 0, Value.int .i64 0]], []⟩).memory := laidMet_of_run' 8 (by kernel_rfl) (by kernel_rfl)
theorem reads (os : Os) {H : Type} (enc : TypeId × Value → H) : ∃ ps, DataW.whole enc Tryd.prog ((laidWorld os).forCall (fun _ _ => 0) ⟨#[], #[.agg #[Value.slice none 0 0, Value.slice none 0 0, Value.int .i64 0, Value.int .i64 0, Value.int .i64 0, Value.int .i64 0, Value.int .u64 0, Value.int .i64 0]], []⟩).memory Tryd.f3.params.toList Rows.tableTellsSpec.vars false #[Value.agg #[Value.slice none 0 0, Value.slice none 0 0, Value.int .i64 0, Value.int .i64 0, Value.int .i64 0, Value.int .i64 0, Value.int .u64 0, Value.int .i64 0]].toList 8 = some ([.agg [.agg [.nil, .nil], .agg [.lit (.int .i64 0), .lit (.int .i64 0)], .lit (.int .i64 0), .lit (.int .i64 0), .lit (.int .u64 0), .lit (.int .i64 0)]], [], ps) := ⟨[], by kernel_rfl⟩
set_option maxRecDepth 100000 in
theorem lifted (os : Os) (started : os.Started) (H : Type) (enc : TypeId × Value → H) (F : Stop.Interp) :
    ReturnsInHanded {} Tryd.checked os 3 .any ((OpenSpec.ofChange Rows.tableTellsSpec).preRow enc Tryd.prog Tryd.f3 Rows.tableTellsRow.domain false Rows.tableTellsRow.laid) (((OpenSpec.ofChange Rows.tableTellsSpec).at F).post enc Tryd.prog Tryd.f3 false true false false) := by
  obtain ⟨ps, hx⟩ := reads os enc
  refine returnsInHanded_of_row (C := Tryd.checked) (s := OpenSpec.ofChange Rows.tableTellsSpec) own started (by kernel_rfl) Tryd.func3 (witness_row_at (enc := enc) (C := Tryd.checked) false (laidWorld os) #[.agg #[Value.slice none 0 0, Value.slice none 0 0, Value.int .i64 0, Value.int .i64 0, Value.int .i64 0, Value.int .i64 0, Value.int .u64 0, Value.int .i64 0]] rfl (by kernel_rfl) (by kernel_rfl) (by kernel_rfl) (OpenSpec.preRow_of_cond 8 hx (by kernel_rfl) (fun k hk => by cases hk) (by kernel_rfl) (met os))) ?_
  intro W base args ds gs before hval0 hW _ _ _ hL _ _
  have hval : ∀ (j : Nat) t v, Tryd.f3.params[j]? = some t → args[j]? = some v → Value.okWide Tryd.prog W .any base t v := hval0
  have hW' := hW
  obtain ⟨p, q, hA0, hV, rfl, -, -⟩ := hW
  have hA : DataW.TrodAll enc Tryd.prog W 0 (fun _ => true) true Tryd.f3.params.toList args.toList ds p := hA0
  rw [Tryd.params3] at hA hval
  obtain ⟨v0, vs0, d0, ds0, p0, q0, hargs, rfl, rfl, h0, r0⟩ := trodAll_cons hA
  obtain ⟨rfl, rfl, rfl⟩ := trodAll_nil r0
  obtain rfl : args = #[v0] := by cases args; simp_all
  obtain ⟨rfl, rfl⟩ := trodVars_none hV
  obtain ⟨c0_0, c1_0, t_0, s_0, g_0, c_0, n_0, m_0, e_0, rfl, ht_0, hm_0, he_0⟩ := tells_arg (hval 0 30 v0 rfl rfl) h0
  clear hA0 hval0
  refine (walk c0_0 c1_0 t_0 s_0 g_0 c_0 n_0 m_0 e_0 W ht_0 hm_0 he_0 (tab_laid hL)).mono fun e W' ⟨he, hb⟩ => ?_
  subst he
  exact ⟨_, rfl, post_law laidOut (by kernel_rfl) rfl (by kernel_rfl) Tryd.underlying4 hW' rfl hb⟩

theorem row : Rows.TableTellsSaid :=
  OpenClaim.holds_of_cond 3 Tryd.f3 rfl rfl rfl rfl rfl rfl rfl ⟨rfl, rfl, rfl, rfl, rfl⟩ rfl rfl rfl rfl rfl (by kernel_rfl) Tryd.func3 (by kernel_rfl)
    (of_decide_eq_true (by kernel_rfl)) (by unfold Func.isWrapper; first | (rw [if_pos (by decide +kernel)]; kernel_rfl) | (rw [if_neg (by decide +kernel)]; exact ⟨rfl, rfl⟩))
    (fun os started H enc _ F => by rw [OpenClaim.pre_eq_preRow]; exact lifted os started H enc F)
theorem simple (f : FuncId) (fn : Func) (hf : Tryd.pinned.checked.prog.funcNamed Rows.tableTellsRow.func = some f) (hfn : Tryd.pinned.checked.prog.funcs[f]? = some fn) :
    true = Tryd.pinned.checked.prog.looks [] ∧ ∀ (j : Nat) t, fn.params[j]? = some t → Tryd.pinned.checked.prog.wantsStandIn t = false := by
  have e1 : Tryd.prog.funcNamed Rows.tableTellsRow.func = some 3 := by kernel_rfl
  cases e1.symm.trans hf
  cases Tryd.func3.symm.trans hfn
  exact ⟨by kernel_rfl, no_stand (P := Tryd.prog) (by kernel_rfl)⟩
/-- **TableTells**: the given statement, a tied card. -/
theorem proved : Rows.TableTellsCardSaid :=
  Claim7.holds_tied_plain_at .later [] _ _ _ _ row (fun _ h => by cases h) (by kernel_rfl) (fun _ h => by cases h) tableTells_row_tie rfl ⟨rfl, rfl⟩ (by kernel_rfl) rfl simple (by kernel_rfl)

end Go.Proofs.YtjikabalpejmlaaDoor.tableTells
