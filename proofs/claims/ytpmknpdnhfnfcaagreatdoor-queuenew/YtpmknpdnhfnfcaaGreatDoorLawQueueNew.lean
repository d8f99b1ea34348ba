/-
  QueueNew returns true at every input, and turns nothing that was there: a queue without anybody is what the document says. The table of weights is tied to the program's text.
-/
import Derived.Test.YtpmknpdnhfnfcaaGreatDoorQuV
import Derived.Test.YtpmknpdnhfnfcaaGreatDoorQuW
import Derived.Test.YtpmknpdnhfnfcaaGreatDoorWgtL
import Derived.Test.YtpmknpdnhfnfcaaGreatDoorPost
namespace Go.Proofs.YtpmknpdnhfnfcaaGreatDoor.queueNew
open Go.ChangeShapes Go.WideShapes Go.ChangeAt Go.RowKit Go.Sort Ky Wd Tn Tr Wg Qu

set_option maxRecDepth 100000 in
theorem New_s5 (n mn : Int) (hm : U mn) (q : Q) (e0 : Int) (hq : newQ n mn = q) (he : newE n = e0) (W : World) :
    Calls Tryz.prog 13 #[.int .i64 n, .int .u64 mn] W fun en w' => (∃ a c d e, en = .returned (.tuple #[.agg #[.int .i64 q.t.root, .slice a q.t.ns.length c, .int .i64 q.cur, .int .u64 q.v, .int .u64 q.mn, .int .i64 q.load, .slice d q.ws.length e], .int .i64 e0]) ∧ Qd w' q (.slice a q.t.ns.length c) (.slice d q.ws.length e)) ∧ Below W.heap.size W w' := by
  subst hq he
  refine (rNew_q n mn hm W).mono ?_
  rintro en w' ⟨⟨v', rfl, a, c, d, e, rfl, hd⟩, hb⟩
  exact ⟨⟨a, c, d, e, rfl, hd⟩, hb⟩

set_option maxRecDepth 100000 in
set_option maxHeartbeats 4000000 in
theorem walk (n : Int) (mn : Int) (_w0 : (Lit.int .i64 n).wf = true) (w1 : (Lit.int .u64 mn).wf = true) (W : World) (hT : Tab W) :
    Calls Tryz.prog 4 #[.int .i64 n, .int .u64 mn] W fun e w' => e = .returned (.bool true) ∧ Below W.heap.size W w' := by
  have hm : U mn := tnU_of_wf w1
  obtain ⟨q, hq⟩ : ∃ q, newQ n mn = q := ⟨_, rfl⟩
  obtain ⟨er, he⟩ : ∃ er, newE n = er := ⟨_, rfl⟩
  have HN1 : Hid (∀ X, Calls Tryz.prog 12 #[.int .i64 n, .int .u64 mn] X fun en w' => (∃ a c d e, en = .returned (.tuple #[.agg #[.int .i64 q.t.root, .slice a q.t.ns.length c, .int .i64 q.cur, .int .u64 q.v, .int .u64 q.mn, .int .i64 q.load, .slice d q.ws.length e], .int .i64 er]) ∧ Qd w' q (.slice a q.t.ns.length c) (.slice d q.ws.length e)) ∧ Below X.heap.size X w') := Lib.hid (fun X => New_s4 n mn hm q er hq he X)
  have HN2 : Hid (∀ X, Calls Tryz.prog 13 #[.int .i64 n, .int .u64 mn] X fun en w' => (∃ a c d e, en = .returned (.tuple #[.agg #[.int .i64 q.t.root, .slice a q.t.ns.length c, .int .i64 q.cur, .int .u64 q.v, .int .u64 q.mn, .int .i64 q.load, .slice d q.ws.length e], .int .i64 er]) ∧ Qd w' q (.slice a q.t.ns.length c) (.slice d q.ws.length e)) ∧ Below X.heap.size X w') := Lib.hid (fun X => New_s5 n mn hm q er hq he X)
  have HT := Lib.hid hT
  clear hm hq he hT w1
  go_enter Tryz.func4, Tryz.ntmps4
  go_wp2_with fail
  refine (HN1.out _).mono ?_
  rintro e' u1 ⟨⟨a1, c1, d1, e1, rfl, hd⟩, hb⟩
  have HX1 := Lib.hid (Bx7.new hd)
  have HB1 := Lib.hid (hb.alloc hb.size (.cells #[.int .i64 q.t.root, .slice a1 q.t.ns.length c1, .int .i64 q.cur, .int .u64 q.v, .int .u64 q.mn, .int .i64 q.load, .slice d1 q.ws.length e1] 28))
  clear hd hb HN1
  go_upto_region 2 with fail
  generalize u1.heap.size = p1 at HX1 ⊢
  generalize u1.alloc (.cells #[.int .i64 q.t.root, .slice a1 q.t.ns.length c1, .int .i64 q.cur, .int .u64 q.v, .int .u64 q.mn, .int .i64 q.load, .slice d1 q.ws.length e1] 28) = w1 at HX1 HB1 ⊢
  go_wp2_with fail
  refine (HN2.out _).mono ?_
  rintro e' u2 ⟨⟨a2, c2, d2, e2, rfl, hd⟩, hb⟩
  have HX2 := Lib.hid (Bx7.new hd)
  have HA2 := Lib.hid (hb.alloc hb.size (.cells #[.int .i64 q.t.root, .slice a2 q.t.ns.length c2, .int .i64 q.cur, .int .u64 q.v, .int .u64 q.mn, .int .i64 q.load, .slice d2 q.ws.length e2] 28))
  have HY1 := Lib.hid (HX1.out.below HA2.out)
  have HB2 := Lib.hid (HB1.out.trans (HA2.out.mono HB1.out.size))
  clear hd hb HN2 HX1 HB1 HA2
  go_upto_region 3 with fail
  generalize u2.heap.size = p2 at HX2 ⊢
  generalize u2.alloc (.cells #[.int .i64 q.t.root, .slice a2 q.t.ns.length c2, .int .i64 q.cur, .int .u64 q.v, .int .u64 q.mn, .int .i64 q.load, .slice d2 q.ws.length e2] 28) = w2 at HX2 HY1 HB2 ⊢
  have HC := Lib.hid (awake_q w2 (HT.out.below HB2.out))
  go_wp2_with fail
  refine HC.out.mono ?_
  rintro e' w3 ⟨rfl, hb⟩
  have HB3 := Lib.hid (HB2.out.trans (hb.mono HB2.out.size))
  have HZ1 := Lib.hid (HY1.out.below hb)
  have HZ2 := Lib.hid (HX2.out.below hb)
  clear hb HC HX2 HY1 HB2
  obtain ⟨g0, g1, g2, g3, g4, g5, g6⟩ := HZ1.out.qb.all
  obtain ⟨h0, h1, h2, h3, h4, h5, h6⟩ := HZ2.out.qb.all
  have HC := Lib.hid (rSameQ HZ1.out.qd HZ2.out.qd)
  unfold qv at HC
  go_wp2_with fail
  refine HC.out.mono ?_
  rintro e' w4 ⟨rfl, hb⟩
  have HB4 := Lib.hid (HB3.out.trans (hb.mono HB3.out.size))
  clear hb HC g0 g1 g2 g3 g4 g5 g6 h0 h1 h2 h3 h4 h5 h6
  go_wp2
  go_ret
  exact ⟨rfl, HB4.out⟩

theorem met (os : Os) : laidMet Tryz.prog Rows.queueNewRow.laid ((laidWorld os).forCall (fun _ _ => 0) ⟨#[], #[.int .i64 0, .int .u64 0], []⟩).memory := laidMet_of_run' 8 (by kernel_rfl) (by kernel_rfl)
theorem reads (os : Os) {H : Type} (enc : TypeId × Value → H) : ∃ ps, DataW.whole enc Tryz.prog ((laidWorld os).forCall (fun _ _ => 0) ⟨#[], #[.int .i64 0, .int .u64 0], []⟩).memory Tryz.f4.params.toList Rows.queueNewSpec.vars false #[Value.int .i64 0, Value.int .u64 0].toList 8 = some ([.lit (.int .i64 0), .lit (.int .u64 0)], [], ps) := ⟨[], by kernel_rfl⟩
set_option maxRecDepth 100000 in
theorem lifted (os : Os) (started : os.Started) (H : Type) (enc : TypeId × Value → H) (F : Stop.Interp) :
    ReturnsInHanded {} Tryz.checked os 4 .any ((OpenSpec.ofChange Rows.queueNewSpec).preRow enc Tryz.prog Tryz.f4 Rows.queueNewRow.domain false Rows.queueNewRow.laid) (((OpenSpec.ofChange Rows.queueNewSpec).at F).post enc Tryz.prog Tryz.f4 false true false false) := by
  obtain ⟨ps, hx⟩ := reads os enc
  refine returnsInHanded_of_row (C := Tryz.checked) (s := OpenSpec.ofChange Rows.queueNewSpec) own started (by kernel_rfl) Tryz.func4 (witness_row_at (enc := enc) (C := Tryz.checked) false (laidWorld os) #[.int .i64 0, .int .u64 0] rfl (by kernel_rfl) (by kernel_rfl) (by kernel_rfl) (OpenSpec.preRow_of_cond 8 hx (by kernel_rfl) (fun k hk => by cases hk) (by kernel_rfl) (met os))) ?_
  intro W base args ds gs before hval0 hW _ _ _ hL _ _
  have hval : ∀ (j : Nat) t v, Tryz.f4.params[j]? = some t → args[j]? = some v → Value.okWide Tryz.prog W .any base t v := hval0
  have hW' := hW
  obtain ⟨p, q, hA0, hV, rfl, -, -⟩ := hW
  have hA : DataW.TrodAll enc Tryz.prog W 0 (fun _ => true) true Tryz.f4.params.toList args.toList ds p := hA0
  rw [Tryz.params4] at hA hval
  obtain ⟨v0, vs0, d0, ds0, p0, q0, hargs, rfl, rfl, h0, r0⟩ := trodAll_cons hA
  obtain ⟨v1, vs1, d1, ds1, p1, q1, rfl, rfl, rfl, h1, r1⟩ := trodAll_cons r0
  obtain ⟨rfl, rfl, rfl⟩ := trodAll_nil r1
  obtain rfl : args = #[v0, v1] := by cases args; simp_all
  obtain ⟨rfl, rfl⟩ := trodVars_none hV
  obtain ⟨a0, rfl, rfl, rfl, w0⟩ := open_int Tryz.underlying3 (hval 0 3 v0 rfl rfl) h0
  obtain ⟨a1, rfl, rfl, rfl, w1⟩ := open_int Tryz.underlying25 (hval 1 25 v1 rfl rfl) h1
  clear hA0 hval0
  refine (walk a0 a1 w0 w1 W (tab_laid hL)).mono fun e W' ⟨he, hb⟩ => ?_
  subst he
  exact ⟨_, rfl, post_law laidOut (by kernel_rfl) rfl (by kernel_rfl) Tryz.underlying4 hW' rfl hb⟩

theorem row : Rows.QueueNewSaid :=
  OpenClaim.holds_of_cond 4 Tryz.f4 rfl rfl rfl rfl rfl rfl rfl ⟨rfl, rfl, rfl, rfl, rfl⟩ rfl rfl rfl rfl rfl (by kernel_rfl) Tryz.func4 (by kernel_rfl)
    (of_decide_eq_true (by kernel_rfl)) (by unfold Func.isWrapper; first | (rw [if_pos (by decide +kernel)]; kernel_rfl) | (rw [if_neg (by decide +kernel)]; exact ⟨rfl, rfl⟩))
    (fun os started H enc _ F => by rw [OpenClaim.pre_eq_preRow]; exact lifted os started H enc F)
theorem simple (f : FuncId) (fn : Func) (hf : Tryz.pinned.checked.prog.funcNamed Rows.queueNewRow.func = some f) (hfn : Tryz.pinned.checked.prog.funcs[f]? = some fn) :
    false = Tryz.pinned.checked.prog.looks [] ∧ ∀ (j : Nat) t, fn.params[j]? = some t → Tryz.pinned.checked.prog.wantsStandIn t = false := by
  have e1 : Tryz.prog.funcNamed Rows.queueNewRow.func = some 4 := by kernel_rfl
  cases e1.symm.trans hf
  cases Tryz.func4.symm.trans hfn
  exact ⟨by kernel_rfl, no_stand (P := Tryz.prog) (by kernel_rfl)⟩
/-- **QueueNew**: the given statement, a tied card. -/
theorem proved : Rows.QueueNewCardSaid :=
  Claim7.holds_tied_plain_at .later [] _ _ _ _ row (fun _ h => by cases h) (by kernel_rfl) (fun _ h => by cases h) queueNew_row_tie rfl ⟨rfl, rfl⟩ (by kernel_rfl) rfl simple (by kernel_rfl)
end Go.Proofs.YtpmknpdnhfnfcaaGreatDoor.queueNew
