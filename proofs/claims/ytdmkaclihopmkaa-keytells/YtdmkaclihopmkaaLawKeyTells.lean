/-
  KeyTells returns true at every input, and turns nothing that was there: how any keys stand by any least time, which is first, and all of them sorted, are what the document says (at most 60 keys).
-/
import Derived.Test.YtdmkaclihopmkaaKyW
import Derived.Test.YtdmkaclihopmkaaPost
namespace Go.Proofs.Ytdmkaclihopmkaa.keyTells
open Go.ChangeShapes Go.WideShapes Go.ChangeAt Go.RowKit Go.Sort Wd Tn Ky

set_option maxRecDepth 100000 in
set_option maxHeartbeats 800000 in
theorem walk (m : Int) (v : Value) (l : List K) (W : World) (_hm : (Lit.int .u64 m).wf = true) (h : Keys W v l) :
    Calls Try.prog 3 #[.int .u64 m, v] W fun e w' => e = .returned (.bool true) ∧ Below W.heap.size W w' := by
  have mixed : Try.prog.follows .mixedOrders = true := by kernel_rfl
  have HK := Lib.hid h
  have h0 := h
  obtain ⟨a, cap, rfl, -⟩ := h0
  by_cases hl : 60 < l.length
  · clear h
    go_enter Try.func3, Try.ntmps3
    go_wp2_with fail
    refine (awake_any _).mono ?_
    rintro e' w_h3 ⟨rfl, h3⟩
    have HF := Lib.hid h3
    clear h3
    go_wp2
    go_ret
    exact ⟨rfl, HF.out⟩
  · have hln : l.length ≤ 1000 := by omega
    have HP := Lib.hid h.parts
    clear h
    obtain ⟨z, hz⟩ : ∃ z, firstK m l = z := ⟨_, rfl⟩
    obtain ⟨fb, hfb⟩ : ∃ fb, firstB l = fb := ⟨_, rfl⟩
    have HZ := Lib.hid hz
    have HFB := Lib.hid hfb
    have ez1 : (z.1 == z.1) = true := by simp
    have ez2 : (z.2 == z.2) = true := by simp
    have ef : (fb == fb) = true := by simp
    clear hz hfb
    go_enter Try.func3, Try.ntmps3
    go_wp2_with fail
    refine (first_any m HK.out hln).mono ?_
    rintro e' w1 ⟨rfl, hb1⟩
    rw [HZ.out, HFB.out]
    have HB1 : Hid (Below W.heap.size W (w1.alloc (.cells #[.int .u64 z.1, .int .i64 z.2] 26))) := Lib.hid (hb1.alloc hb1.size _)
    have HX1 : Hid (Kb (w1.alloc (.cells #[.int .u64 z.1, .int .i64 z.2] 26)) w1.heap.size z) := Lib.hid (Kb.new w1 z)
    clear hb1
    go_wp2_with fail
    generalize w1.alloc (.cells #[.int .u64 z.1, .int .i64 z.2] 26) = w2 at HB1 HX1 ⊢
    generalize w1.heap.size = q1 at HX1 ⊢
    refine (rfirst_any m (HK.out.below HB1.out) hln).mono ?_
    rintro e' w3 ⟨rfl, hb3⟩
    rw [HZ.out, HFB.out]
    have HB3 : Hid (Below W.heap.size W (w3.alloc (.cells #[.int .u64 z.1, .int .i64 z.2] 26))) := Lib.hid ((bOn HB1.out hb3).alloc (bOn HB1.out hb3).size _)
    have HX3 : Hid (Kb (w3.alloc (.cells #[.int .u64 z.1, .int .i64 z.2] 26)) q1 z) := Lib.hid ((HX1.out.below hb3 HX1.out.lt).gr (Gr.alloc _ _))
    have HY3 : Hid (Kb (w3.alloc (.cells #[.int .u64 z.1, .int .i64 z.2] 26)) w3.heap.size z) := Lib.hid (Kb.new w3 z)
    clear hb3
    go_wp2
    generalize w3.alloc (.cells #[.int .u64 z.1, .int .i64 z.2] 26) = w4 at HB3 HX3 HY3 ⊢
    generalize w3.heap.size = q3 at HY3 ⊢
    go_loopw [9] (fun i wr => ∃ k : Nat, 0 < k ∧ k ≤ 61 ∧ i = .int .i64 k ∧ Hid (Gr w4 wr)) (fun i _ => 61 - (intOf i).toNat)
    case atStart => exact ⟨1, by omega, by omega, rfl, Lib.hid (Gr.refl _)⟩
    case round =>
      obtain ⟨k, hk0, hk, rfl, HR⟩ := hrel
      by_cases hlt : k < l.length
      · rcases HP.out with ⟨rfl, -⟩ | ⟨-, b, off, cap', he, -, hb, hc⟩
        · simp at hlt
        · simp only [Value.slice.injEq] at he
          obtain ⟨rfl, -, rfl⟩ := he
          obtain ⟨j, hj⟩ : ∃ j, j + 1 = k := ⟨k - 1, by omega⟩
          obtain ⟨x, hx⟩ : ∃ x, l.getD k (0, 0) = x := ⟨_, rfl⟩
          obtain ⟨y, hy⟩ : ∃ y, l.getD j (0, 0) = y := ⟨_, rfl⟩
          have c := hc k hlt
          have d := hc j (by omega)
          rw [hx] at c
          rw [hy] at d
          have hbr : Below W.heap.size W wr := bOn HB3.out HR.out.below
          have f0 : ∀ n os, (grow (wr.drewN n) os).cell? ⟨b, off + k * 2, none⟩ = some (.int .u64 x.1) := fun n os => Gr.cell ⟨n, os, rfl⟩ ((hbr.cell (p := ⟨b, off + k * 2, none⟩) hb).trans c.1)
          have f1 : ∀ n os, (grow (wr.drewN n) os).cell? ⟨b, off + k * 2 + 1, none⟩ = some (.int .i64 x.2) := fun n os => Gr.cell ⟨n, os, rfl⟩ ((hbr.cell (p := ⟨b, off + k * 2 + 1, none⟩) hb).trans c.2)
          have f2 : ∀ n os, (grow (wr.drewN n) os).cell? ⟨b, off + j * 2, none⟩ = some (.int .u64 y.1) := fun n os => Gr.cell ⟨n, os, rfl⟩ ((hbr.cell (p := ⟨b, off + j * 2, none⟩) hb).trans d.1)
          have f3 : ∀ n os, (grow (wr.drewN n) os).cell? ⟨b, off + j * 2 + 1, none⟩ = some (.int .i64 y.2) := fun n os => Gr.cell ⟨n, os, rfl⟩ ((hbr.cell (p := ⟨b, off + j * 2 + 1, none⟩) hb).trans d.2)
          obtain ⟨q, hq⟩ : ∃ q, ltK m y x = q := ⟨_, rfl⟩
          have hcg : ∀ n os, Calls Try.prog 12 #[.int .u64 m, .agg #[.int .u64 y.1, .int .i64 y.2], .agg #[.int .u64 x.1, .int .i64 x.2]] (grow (wr.drewN n) os) fun e w' => e = .returned (.bool q) ∧ ∃ q' os', w' = grow ((grow (wr.drewN n) os).drewN q') os' := fun n os => by
            rw [← hq]; exact less_gr m y x _
          have hcr : ∀ n os, Calls Try.prog 13 #[.int .u64 m, .agg #[.int .u64 y.1, .int .i64 y.2], .agg #[.int .u64 x.1, .int .i64 x.2]] (grow (wr.drewN n) os) fun e w' => e = .returned (.bool q) ∧ ∃ q' os', w' = grow ((grow (wr.drewN n) os).drewN q') os' := fun n os => by
            rw [← hq]; exact rless_gr m y x _
          have hw1 : IntKind.i64.wrap ((k : Int) - 1) = (j : Int) := by rw [IntKind.wrap_i64]; omega
          have hjl : j < l.length := by omega
          have eq1 : (q != q) = false := by simp
          clear c d hbr hx hy hq hj hc hb
          go_wp2_with fail
          go_quiet_grown (first | (go_at_call 12; refine Calls.grown_of (hcg _ _)) | (go_at_call 13; refine Calls.grown_of (hcr _ _)))
          have HG : Hid (Gr w4 (grow (wr.drewN nq) osq)) := Lib.hid (HR.out.trans ⟨nq, osq, rfl⟩)
          clear f0 f1 f2 f3 hcg hcr
          go_wp2
          exact ⟨⟨k + 1, by omega, by omega, by go_num, HG⟩, by simp [intOf]; omega⟩
      · have hlt2 : decide (k < l.length) = false := decide_eq_false hlt
        have HX4 := Lib.hid (HX3.out.gr HR.out)
        have HY4 := Lib.hid (HY3.out.gr HR.out)
        have HB4 := Lib.hid (bOn HB3.out HR.out.below)
        have HK4 := Lib.hid (HK.out.below HB4.out)
        clear HR
        go_wp2_with fail
        refine (awake_any _).mono ?_
        rintro e' w5 ⟨rfl, hb5⟩
        obtain ⟨g0, g1, -, -, -⟩ := (HX4.out.below hb5 HX4.out.lt).all
        obtain ⟨h0, h1, -, -, -⟩ := (HY4.out.below hb5 HY4.out.lt).all
        have HB5 := Lib.hid (bOn HB4.out hb5)
        have HK5 := Lib.hid (HK4.out.below hb5)
        have hd : ∀ p : Bool, (p == p) = true := by simp
        have HD := Lib.hid hd
        clear hb5 hd
        go_wp2_with fail
        refine (sorted_any m HK5.out hln).mono ?_
        rintro e' w6 ⟨rfl, hb6⟩
        have HB6 := Lib.hid (bOn HB5.out hb6)
        have HK6 := Lib.hid (HK5.out.below hb6)
        clear hb6 g0 g1 h0 h1
        go_wp2_with fail
        refine (rsorted_any m HK6.out).mono ?_
        rintro e' w7 ⟨rfl, hg7⟩
        have HB7 := Lib.hid (bOn HB6.out hg7.below)
        have HK7 := Lib.hid (HK6.out.below hg7.below)
        clear hg7
        generalize decide (okK m l) = ok
        have e1 := HD.out ok
        go_wp2_with fail
        refine (sort_any m HK7.out hln).mono ?_
        rintro e' w8 ⟨⟨v8, rfl, hK8⟩, hb8⟩
        have HB8 := Lib.hid (bOn HB7.out hb8)
        have HK8 := Lib.hid (HK7.out.below hb8)
        have HS8 := Lib.hid hK8
        clear hK8 hb8
        go_wp2_with fail
        refine (rsort_any m HK8.out hln).mono ?_
        rintro e' w9 ⟨⟨v9, rfl, hK9⟩, hb9⟩
        have HB9 := Lib.hid (bOn HB8.out hb9)
        have HS9 := Lib.hid (HS8.out.below hb9)
        have HT9 := Lib.hid hK9
        clear hK9 hb9
        go_wp2_with fail
        refine (same_any HS9.out HT9.out).mono ?_
        rintro e' w10 ⟨rfl, hg10⟩
        rw [show decide (srtK m l = srtK m l) = true from decide_eq_true rfl]
        have HB10 := Lib.hid (bOn HB9.out hg10.below)
        clear hg10
        go_wp2
        go_ret
        exact ⟨rfl, HB10.out⟩

set_option maxRecDepth 100000 in
theorem lifted (os : Os) (started : os.Started) (H : Type) (enc : TypeId × Value → H) :
    ReturnsInHanded {} Try.checked os 3 .any (Rows.keyTellsSpec.pre6 enc Try.prog Try.f3 Rows.keyTellsRow.domain false) (Rows.keyTellsSpec.post enc Try.prog Try.f3 false true false false) := by
  refine returnsInHanded_of_change (C := Try.checked) own started (by kernel_rfl) Try.func3
    (ChangeSpec.witness6 (enc := enc) (C := Try.checked) false ⟨#[], #[.int .u64 0, .slice none 0 0], []⟩ 8 (by kernel_rfl) (by kernel_rfl) (by kernel_rfl) (by kernel_rfl)) ?_
  intro W base args ds gs before hval0 hW _ _
  have hval : ∀ (j : Nat) t v, Try.f3.params[j]? = some t → args[j]? = some v → Value.okWide Try.prog W .any base t v := hval0
  have hW' := hW
  obtain ⟨p, q, hA0, hV, rfl, -, -⟩ := hW
  have hA : DataW.TrodAll enc Try.prog W 0 (fun _ => true) true Try.f3.params.toList args.toList ds p := hA0
  rw [Try.params3] at hA hval
  obtain ⟨v0, vs0, d0, ds0, p0, q0, hargs, rfl, rfl, h0, r0⟩ := trodAll_cons hA
  obtain ⟨v1, vs1, d1, ds1, p1, q1, rfl, rfl, rfl, h1, r1⟩ := trodAll_cons r0
  obtain ⟨rfl, rfl, rfl⟩ := trodAll_nil r1
  obtain rfl : args = #[v0, v1] := by cases args; simp_all
  obtain ⟨rfl, rfl⟩ := trodVars_none hV
  obtain ⟨a0, rfl, rfl, rfl, w0⟩ := open_int Try.underlying22 (hval 0 22 v0 rfl rfl) h0
  obtain ⟨a1, w1⟩ := keys_arg Try.underlying23 Try.underlying26 (by kernel_rfl) rfl rfl (by kernel_rfl) (by kernel_rfl) Try.underlying22 Try.underlying3 (hval 1 23 v1 rfl rfl) h1
  clear hA0 hval0
  refine (walk a0 v1 a1 W w0 w1).mono fun e W' ⟨he, hb⟩ => ?_
  subst he
  exact ⟨_, rfl, post_law laidOut (by kernel_rfl) rfl (by kernel_rfl) Try.underlying4 hW' rfl hb⟩

/-- **KeyTells**: the given statement. -/
theorem proved : Rows.KeyTellsSaid :=
  OpenClaim.holds_of_wide 3 Try.f3 rfl rfl rfl rfl rfl rfl rfl ⟨rfl, rfl, rfl, rfl, rfl⟩ rfl rfl rfl rfl rfl (by kernel_rfl) Try.func3 (by kernel_rfl)
    (of_decide_eq_true (by kernel_rfl)) (by unfold Func.isWrapper; first | (rw [if_pos (by decide +kernel)]; kernel_rfl) | (rw [if_neg (by decide +kernel)]; exact ⟨rfl, rfl⟩))
    (fun os started H enc _ => lifted os started H enc)
end Go.Proofs.Ytdmkaclihopmkaa.keyTells
