/-
  TableMade returns true at every input, and turns nothing that was there: of tables that are made it is told, and done, what the document says. The tables of math/bits and of places are tied to the program's text.
-/
import Derived.Test.YtjikabalpejmlaaDoorTlX
import Derived.Test.YtjikabalpejmlaaDoorTlQ
import Derived.Test.YtjikabalpejmlaaDoorTlMz
import Derived.Test.YtjikabalpejmlaaDoorPost
namespace Go.Proofs.YtjikabalpejmlaaDoor.tableMade
open Go.ChangeShapes Go.WideShapes Go.ChangeAt Go.RowKit Pk Lf
open Mk (V)

set_option maxRecDepth 100000 in
set_option maxHeartbeats 4000000 in
theorem walk (vl : Value) (zs : List Int) (n m : Int) (W : World) (hl : Ints .u16 W vl zs) (hn : (Lit.int .u16 n).wf = true) (hm : (Lit.int .u16 m).wf = true) (hO : Ok W) :
    Calls Tryd.prog 5 #[vl, .int .u16 n, .int .u16 m] W fun e w' => e = .returned (.bool true) ∧ Below W.heap.size W w' := by
  have HMD := Lib.hid (made_any zs vl W hl)
  obtain ⟨a, cap, rfl, -⟩ := hl
  have hnb := bounds_u16 hn
  have hmb := bounds_u16 hm
  obtain ⟨n, rfl⟩ : ∃ k : Nat, n = (k : Int) := ⟨n.toNat, by omega⟩
  obtain ⟨m, rfl⟩ : ∃ k : Nat, m = (k : Int) := ⟨m.toNat, by omega⟩
  have HO := Lib.hid hO
  have H5 : Hid (five (madeT zs)) := Lib.hid (madeK_five zs _)
  have hn6 : n < 65536 := by omega
  have hm6 : m < 65536 := by omega
  clear hn hm hO hnb hmb
  generalize madeT zs = t at HMD H5
  go_enter Tryd.func5, Tryd.ntmps5
  go_wp2_with fail
  refine HMD.out.mono ?_
  rintro e' w2 ⟨⟨a2, l2, p2, a3, l3, p3, rfl, hv⟩, hb⟩
  obtain ⟨c0, c1, e, hI, hK⟩ := id hv
  simp only [Value.agg.injEq, Array.mk.injEq, List.cons.injEq, and_true] at e
  obtain ⟨rfl, rfl⟩ := e
  obtain rfl : l2 = 5 := by obtain ⟨_, _, e, -⟩ := hI; cases e; exact H5.out.2
  have hb3 := (Below.refl w2.heap.size w2).alloc (Nat.le_refl _) (.cells #[.slice a2 5 p2, .slice a3 l3 p3] 25)
  have HB := Lib.hid (bOn hb hb3)
  have HBT := Lib.hid (Bt.new w2 (.slice a2 5 p2) (.slice a3 l3 p3))
  have HV := Lib.hid (hv.below hb3)
  have HI := Lib.hid (hI.below hb3)
  clear hb hb3 hv hI hK HMD
  have hsl : (n : Int) % 5 = ((n % 5 : Nat) : Int) := by omega
  have HS5 : Hid (n % 5 < 5) := Lib.hid (Nat.mod_lt _ (by decide))
  go_upto_region 3 with fail
  rw [hsl]
  generalize n % 5 = s at HS5 ⊢
  clear hsl
  generalize w2.heap.size = n2 at HBT ⊢
  generalize w2.alloc _ = w3 at HB HBT HV HI ⊢
  obtain ⟨x0, x1⟩ := HBT.out.cells
  rcases HI.out.parts with ⟨h, -⟩ | ⟨-, -, b, off, cap', hv, hbk, hc⟩
  · have := H5.out.2; rw [h] at this; cases this
  simp only [Value.slice.injEq] at hv
  obtain ⟨rfl, -, rfl⟩ := hv
  have k0 := hc s (by rw [H5.out.2]; exact HS5.out)
  have HU : Hid (U (t.ws.getD s 0)) := Lib.hid (HV.out.U (by rw [H5.out.2]; exact HS5.out))
  have hs5 : s < 5 := HS5.out
  clear hc hbk
  generalize t.ws.getD s 0 = zz at k0 HU
  go_wp2_with fail
  refine (rgen_any zz HU.out w3).mono ?_
  rintro e' w' ⟨rfl, rfl⟩
  clear k0
  go_wp2_with fail
  refine (awake_any w3 (HO.out.below HB.out)).mono ?_
  rintro e' w4 ⟨rfl, hb4⟩
  have HV4 := Lib.hid (HV.out.below hb4)
  have HB4 := Lib.hid (bOn HB.out hb4)
  have HOB := Lib.hid hb4
  obtain ⟨y0, y1⟩ := (HBT.out.below hb4).cells
  clear hb4 x0 x1
  have hmm : (m : Int) / 8 = ((m / 8 : Nat) : Int) := by omega
  have HM8 : Hid (V (m / 8)) := Lib.hid (show m / 8 < 18446744073709551616 by omega)
  generalize m / 8 = m8 at hmm HM8
  have HEV : Hid ((Lit.int .i64 ((n : Int) / 32 % 16)).wf = true) := Lib.hid (i64_wf (by omega))
  go_wp2_with fail
  refine (told_any t _ _ (s : Int) _ _ _ m8 _ HM8.out HEV.out w4 HV4.out (by rw [H5.out.2]; decide) ((HO.out.below HB.out).below HOB.out)).mono ?_
  rintro e' w5 ⟨rfl, hb5⟩
  have HB5 := Lib.hid (bOn HB4.out hb5)
  clear hb5 y0 y1
  go_wp2
  go_ret
  exact ⟨rfl, HB5.out⟩

theorem met (os : Os) : laidMet Tryd.prog Rows.tableMadeRow.laid ((laidWorld os).forCall (fun _ _ => 0) ⟨#[], #[.slice none 0 0, .int .u16 0, .int .u16 0], []⟩).memory := laidMet_of_run' 8 (by kernel_rfl) (by kernel_rfl)
theorem reads (os : Os) {H : Type} (enc : TypeId × Value → H) : ∃ ps, DataW.whole enc Tryd.prog ((laidWorld os).forCall (fun _ _ => 0) ⟨#[], #[.slice none 0 0, .int .u16 0, .int .u16 0], []⟩).memory Tryd.f5.params.toList Rows.tableMadeSpec.vars false #[Value.slice none 0 0, Value.int .u16 0, Value.int .u16 0].toList 8 = some ([.nil, .lit (.int .u16 0), .lit (.int .u16 0)], [], ps) := ⟨[], by kernel_rfl⟩
set_option maxRecDepth 100000 in
theorem lifted (os : Os) (started : os.Started) (H : Type) (enc : TypeId × Value → H) (F : Stop.Interp) :
    ReturnsInHanded {} Tryd.checked os 5 .any ((OpenSpec.ofChange Rows.tableMadeSpec).preRow enc Tryd.prog Tryd.f5 Rows.tableMadeRow.domain false Rows.tableMadeRow.laid) (((OpenSpec.ofChange Rows.tableMadeSpec).at F).post enc Tryd.prog Tryd.f5 false true false false) := by
  obtain ⟨ps, hx⟩ := reads os enc
  refine returnsInHanded_of_row (C := Tryd.checked) (s := OpenSpec.ofChange Rows.tableMadeSpec) own started (by kernel_rfl) Tryd.func5 (witness_row_at (enc := enc) (C := Tryd.checked) false (laidWorld os) #[.slice none 0 0, .int .u16 0, .int .u16 0] rfl (by kernel_rfl) (by kernel_rfl) (by kernel_rfl) (OpenSpec.preRow_of_cond 8 hx (by kernel_rfl) (fun k hk => by cases hk) (by kernel_rfl) (met os))) ?_
  intro W base args ds gs before hval0 hW _ _ _ hL _ _
  have hval : ∀ (j : Nat) t v, Tryd.f5.params[j]? = some t → args[j]? = some v → Value.okWide Tryd.prog W .any base t v := hval0
  have hW' := hW
  obtain ⟨p, q, hA0, hV, rfl, -, -⟩ := hW
  have hA : DataW.TrodAll enc Tryd.prog W 0 (fun _ => true) true Tryd.f5.params.toList args.toList ds p := hA0
  rw [Tryd.params5] at hA hval
  obtain ⟨v0, vs0, d0, ds0, p0, q0, hargs, rfl, rfl, h0, r0⟩ := trodAll_cons hA
  obtain ⟨v1, vs1, d1, ds1, p1, q1, rfl, rfl, rfl, h1, r1⟩ := trodAll_cons r0
  obtain ⟨v2, vs2, d2, ds2, p2, q2, rfl, rfl, rfl, h2, r2⟩ := trodAll_cons r1
  obtain ⟨rfl, rfl, rfl⟩ := trodAll_nil r2
  obtain rfl : args = #[v0, v1, v2] := by cases args; simp_all
  obtain ⟨rfl, rfl⟩ := trodVars_none hV
  obtain ⟨a0, w0⟩ := ints_arg Tryd.underlying38 Tryd.underlying39 (by kernel_rfl) (hval 0 38 v0 rfl rfl) h0
  obtain ⟨a1, rfl, rfl, rfl, w1⟩ := open_int Tryd.underlying39 (hval 1 39 v1 rfl rfl) h1
  obtain ⟨a2, rfl, rfl, rfl, w2⟩ := open_int Tryd.underlying39 (hval 2 39 v2 rfl rfl) h2
  clear hA0 hval0
  refine (walk v0 a0 a1 a2 W w0 w1 w2 (tab_laid hL)).mono fun e W' ⟨he, hb⟩ => ?_
  subst he
  exact ⟨_, rfl, post_law laidOut (by kernel_rfl) rfl (by kernel_rfl) Tryd.underlying4 hW' rfl hb⟩

theorem row : Rows.TableMadeSaid :=
  OpenClaim.holds_of_cond 5 Tryd.f5 rfl rfl rfl rfl rfl rfl rfl ⟨rfl, rfl, rfl, rfl, rfl⟩ rfl rfl rfl rfl rfl (by kernel_rfl) Tryd.func5 (by kernel_rfl)
    (of_decide_eq_true (by kernel_rfl)) (by unfold Func.isWrapper; first | (rw [if_pos (by decide +kernel)]; kernel_rfl) | (rw [if_neg (by decide +kernel)]; exact ⟨rfl, rfl⟩))
    (fun os started H enc _ F => by rw [OpenClaim.pre_eq_preRow]; exact lifted os started H enc F)
theorem simple (f : FuncId) (fn : Func) (hf : Tryd.pinned.checked.prog.funcNamed Rows.tableMadeRow.func = some f) (hfn : Tryd.pinned.checked.prog.funcs[f]? = some fn) :
    true = Tryd.pinned.checked.prog.looks [] ∧ ∀ (j : Nat) t, fn.params[j]? = some t → Tryd.pinned.checked.prog.wantsStandIn t = false := by
  have e1 : Tryd.prog.funcNamed Rows.tableMadeRow.func = some 5 := by kernel_rfl
  cases e1.symm.trans hf
  cases Tryd.func5.symm.trans hfn
  exact ⟨by kernel_rfl, no_stand (P := Tryd.prog) (by kernel_rfl)⟩
/-- **TableMade**: the given statement, a tied card. -/
theorem proved : Rows.TableMadeCardSaid :=
  Claim7.holds_tied_plain_at .later [] _ _ _ _ row (fun _ h => by cases h) (by kernel_rfl) (fun _ h => by cases h) tableMade_row_tie rfl ⟨rfl, rfl⟩ (by kernel_rfl) rfl simple (by kernel_rfl)

end Go.Proofs.YtjikabalpejmlaaDoor.tableMade
