/-
  KeyTurns returns true at every input, and turns nothing that was there: what is sorted by a least time is so by a later one, near it; and with all times and the least one turned on by the same (at most 40 keys).
-/
import Derived.Test.YtdmkaclihopmkaaKyQ
import Derived.Test.YtdmkaclihopmkaaPost
namespace Go.Proofs.Ytdmkaclihopmkaa.keyTurns
open Go.ChangeShapes Go.WideShapes Go.ChangeAt Go.RowKit Go.Sort Wd Tn Ky

set_option maxRecDepth 100000 in
set_option maxHeartbeats 800000 in
theorem walk (m : Int) (v : Value) (zs : List Int) (d : Int) (W : World) (_hm : (Lit.int .u64 m).wf = true) (h : Ints .u16 W v zs) (hd : (Lit.int .u64 d).wf = true) :
    Calls Try.prog 7 #[.int .u64 m, v, .int .u64 d] W fun e w' => e = .returned (.bool true) ∧ Below W.heap.size W w' := by
  have HIN := Lib.hid (u16_in h)
  have HK := Lib.hid h
  have hdb := bounds_u64 hd
  obtain ⟨s, hs⟩ : ∃ s, srtK m (madeK m zs) = s := ⟨_, rfl⟩
  have HSK : Hid (∀ x ∈ s, Near m x) := Lib.hid (fun y hy => madeK_near HIN.out y ((srtK_mem m _ y).1 (hs ▸ hy)))
  have HSL : Hid (s.length ≤ 40) := Lib.hid (by rw [← hs, srtK_length]; exact madeK_len m zs)
  have HOK : Hid (okK m s) := Lib.hid (by rw [← hs]; exact srt_ok (madeK_kin HIN.out) (madeK_nodup m zs))
  have HML : Hid ((madeK m zs).length ≤ 1000) := Lib.hid (Nat.le_trans (madeK_len m zs) (by omega))
  have HO1 : Hid (decide (okK (IntKind.u64.wrap (m + d)) (s.map (turnK d))) = true) := Lib.hid (decide_eq_true (ok_turned HOK.out d))
  have HO2 : Hid (decide (okK (IntKind.u64.wrap (m + d % 4611686018427387904)) s) = true) := Lib.hid (decide_eq_true (ok_later HSK.out HOK.out _ (by omega) (by omega)))
  have HS := Lib.hid hs
  clear h hd hs
  go_enter Try.func7, Try.ntmps7
  go_wp2_with fail
  refine (awake_any _).mono ?_
  rintro e' w_h1 ⟨rfl, h1⟩
  have HB1 := Lib.hid h1
  have HK1 := Lib.hid (HK.out.below h1)
  clear h1
  go_wp2_with fail
  refine (made_any m HK1.out).mono ?_
  rintro e' w2 ⟨⟨v2, rfl, hK2⟩, hb2⟩
  have HB2 := Lib.hid (bOn HB1.out hb2)
  have HK2 := Lib.hid hK2
  clear hK2 hb2
  go_wp2_with fail
  refine (sort_any m HK2.out HML.out).mono ?_
  rintro e' w3 ⟨⟨v3, rfl, hK3⟩, hb3⟩
  rw [HS.out] at hK3
  have HB3 := Lib.hid (bOn HB2.out hb3)
  have HK3 := Lib.hid hK3
  have HP3 := Lib.hid hK3.parts
  obtain ⟨a3, c3, rfl, -⟩ := hK3
  have hl2 : s.length ≤ 40 := HSL.out
  clear hb3
  go_wp2
  go_loopw [9, 10] (fun t i wr => ∃ k : Nat, k ≤ s.length ∧ i = .int .i64 k ∧ Hid (OwnK wr w3.heap.size 26 t ((s.take k).map (turnK d)) ∧ Below w3.heap.size w3 wr)) (fun _ i _ => s.length - (intOf i).toNat)
  case atStart => exact ⟨0, by omega, rfl, Lib.hid ⟨OwnK.nil _ _ _, Below.refl _ _⟩⟩
  case round =>
    obtain ⟨k, hk, rfl, HR⟩ := hrel
    by_cases hlt : k < s.length
    · rcases HP3.out with ⟨hnil, -⟩ | ⟨-, b, off, cap', he, -, hb, hc⟩
      · rw [hnil] at hlt; exact absurd hlt (Nat.not_lt_zero _)
      · simp only [Value.slice.injEq] at he
        obtain ⟨rfl, -, rfl⟩ := he
        obtain ⟨y, hy⟩ : ∃ y, s.getD k (0, 0) = y := ⟨_, rfl⟩
        have c := hc k hlt
        rw [hy] at c
        have HT : Hid ((s.take (k + 1)).map (turnK d) = (s.take k).map (turnK d) ++ [turnK d y]) := Lib.hid (by rw [take_snocK s k hlt, List.map_append, hy]; rfl)
        have HLN : Hid (((s.take k).map (turnK d)).length ≤ 40) := Lib.hid (by rw [List.length_map, List.length_take]; omega)
        have HYK : Hid (Kin (turnK d y)) := Lib.hid (turnK_kin (by rw [← hy]; exact (HSK.out _ (by simp [List.getD, hlt])).1))
        have HSX : Hid (∀ X, Below w3.heap.size w3 X → (X.cell? ⟨b, off + k * 2, none⟩ = some (.int .u64 y.1) ∧ X.cell? ⟨b, off + k * 2 + 1, none⟩ = some (.int .i64 y.2))) := Lib.hid (fun X hX => ⟨(hX.cell (p := ⟨b, off + k * 2, none⟩) hb).trans c.1, (hX.cell (p := ⟨b, off + k * 2 + 1, none⟩) hb).trans c.2⟩)
        obtain ⟨f0, f1⟩ := HSX.out wr HR.out.2
        have HB0 : Hid (Below w3.heap.size w3 wr) := Lib.hid HR.out.2
        have HBD : Hid (Below w3.heap.size w3 wr.drew) := Lib.hid HR.out.2.drew
        have HBA : Hid (Below w3.heap.size w3 (wr.alloc (.cells #[.int .u64 (IntKind.u64.wrap (y.1 + d)), .int .i64 y.2] 26)).drew) := Lib.hid (HR.out.2.alloc HR.out.2.size _).drew
        have HOA : Hid (OwnK (wr.alloc (.cells #[.int .u64 (IntKind.u64.wrap (y.1 + d)), .int .i64 y.2] 26)).drew w3.heap.size 26 u9 ((s.take k).map (turnK d))) := Lib.hid (HR.out.1.alloc _)
        have HKA : Hid (Keys (wr.alloc (.cells #[.int .u64 (IntKind.u64.wrap (y.1 + d)), .int .i64 y.2] 26)).drew (.slice (some ⟨wr.heap.size, 0, none⟩) 1 1) [turnK d y]) := Lib.hid (one_new wr (turnK d y) HYK.out)
        clear c hy hc hb
        go_wp2_with fail
        go_region_held3 (fun X => X.cell? ⟨b, off + k * 2, none⟩ = some (.int .u64 y.1) ∧ X.cell? ⟨b, off + k * 2 + 1, none⟩ = some (.int .i64 y.2))
          (first
            | exact HSX.out _ HB0.out
            | exact HSX.out _ HBD.out
            | exact HSX.out _ HBA.out
            | exact HSX.out _ (HBA.out.trans hb4)
            | go_keep)
          (first
            | (refine step_append_keys rfl (.tmp 25) (.tmp 39) 23 rfl w3.heap.size 26 Try.underlying23 info_key (by decide) u9 (.slice (some ⟨wr.heap.size, 0, none⟩) 1 1) (by simp [Act.eval]) (by simp [Act.eval]) ((s.take k).map (turnK d)) [turnK d y] HOA.out HKA.out (by have := HLN.out; simp only [List.length_cons, List.length_nil]; omega) HBA.out.size ?_; intro v4 w4 hO4 hb4))
        all_goals
          have H2 := Lib.hid hO4
          have H3 := Lib.hid (HBA.out.trans hb4)
          clear hO4 hb4
          go_wp2
          exact ⟨⟨k + 1, by omega, by go_num, Lib.hid ⟨by rw [HT.out]; exact H2.out, H3.out⟩⟩, by simp [intOf]; omega⟩
    · obtain rfl : k = s.length := by omega
      have hr := HR.out
      rw [List.take_length] at hr
      have HKT := Lib.hid (hr.1.keys (fun x hx => by
        obtain ⟨y, hy, rfl⟩ := List.mem_map.1 hx
        exact turnK_kin (HSK.out y hy).1))
      have HB4 := Lib.hid (bOn HB3.out hr.2)
      have HK4 := Lib.hid (HK3.out.below hr.2)
      have HTL : Hid ((s.map (turnK d)).length ≤ 1000) := Lib.hid (by rw [List.length_map]; omega)
      have HS4 : Hid (s.length ≤ 1000) := Lib.hid (by omega)
      clear hr
      go_wp2_with fail
      refine (sorted_any _ HKT.out HTL.out).mono ?_
      rintro e' w5 ⟨rfl, hb5⟩
      rw [HO1.out]
      have HB5 := Lib.hid (bOn HB4.out hb5)
      have HK5 := Lib.hid (HK4.out.below hb5)
      clear hb5
      go_wp2_with fail
      refine (sorted_any _ HK5.out HS4.out).mono ?_
      rintro e' w6 ⟨rfl, hb6⟩
      rw [HO2.out]
      have HB6 := Lib.hid (bOn HB5.out hb6)
      clear hb6
      go_wp2
      go_ret
      exact ⟨rfl, HB6.out⟩

set_option maxRecDepth 100000 in
theorem lifted (os : Os) (started : os.Started) (H : Type) (enc : TypeId × Value → H) :
    ReturnsInHanded {} Try.checked os 7 .any (Rows.keyTurnsSpec.pre6 enc Try.prog Try.f7 Rows.keyTurnsRow.domain false) (Rows.keyTurnsSpec.post enc Try.prog Try.f7 false true false false) := by
  refine returnsInHanded_of_change (C := Try.checked) own started (by kernel_rfl) Try.func7
    (ChangeSpec.witness6 (enc := enc) (C := Try.checked) false ⟨#[], #[.int .u64 0, .slice none 0 0, .int .u64 0], []⟩ 8 (by kernel_rfl) (by kernel_rfl) (by kernel_rfl) (by kernel_rfl)) ?_
  intro W base args ds gs before hval0 hW _ _
  have hval : ∀ (j : Nat) t v, Try.f7.params[j]? = some t → args[j]? = some v → Value.okWide Try.prog W .any base t v := hval0
  have hW' := hW
  obtain ⟨p, q, hA0, hV, rfl, -, -⟩ := hW
  have hA : DataW.TrodAll enc Try.prog W 0 (fun _ => true) true Try.f7.params.toList args.toList ds p := hA0
  rw [Try.params7] at hA hval
  obtain ⟨v0, vs0, d0, ds0, p0, q0, hargs, rfl, rfl, h0, r0⟩ := trodAll_cons hA
  obtain ⟨v1, vs1, d1, ds1, p1, q1, rfl, rfl, rfl, h1, r1⟩ := trodAll_cons r0
  obtain ⟨v2, vs2, d2, ds2, p2, q2, rfl, rfl, rfl, h2, r2⟩ := trodAll_cons r1
  obtain ⟨rfl, rfl, rfl⟩ := trodAll_nil r2
  obtain rfl : args = #[v0, v1, v2] := by cases args; simp_all
  obtain ⟨rfl, rfl⟩ := trodVars_none hV
  obtain ⟨a0, rfl, rfl, rfl, w0⟩ := open_int Try.underlying22 (hval 0 22 v0 rfl rfl) h0
  obtain ⟨a1, w1⟩ := ints_arg Try.underlying41 Try.underlying45 (by kernel_rfl) (hval 1 41 v1 rfl rfl) h1
  obtain ⟨a2, rfl, rfl, rfl, w2⟩ := open_int Try.underlying22 (hval 2 22 v2 rfl rfl) h2
  clear hA0 hval0
  refine (walk a0 v1 a1 a2 W w0 w1 w2).mono fun e W' ⟨he, hb⟩ => ?_
  subst he
  exact ⟨_, rfl, post_law laidOut (by kernel_rfl) rfl (by kernel_rfl) Try.underlying4 hW' rfl hb⟩

/-- **KeyTurns**: the given statement. -/
theorem proved : Rows.KeyTurnsSaid :=
  OpenClaim.holds_of_wide 7 Try.f7 rfl rfl rfl rfl rfl rfl rfl ⟨rfl, rfl, rfl, rfl, rfl⟩ rfl rfl rfl rfl rfl (by kernel_rfl) Try.func7 (by kernel_rfl)
    (of_decide_eq_true (by kernel_rfl)) (by unfold Func.isWrapper; first | (rw [if_pos (by decide +kernel)]; kernel_rfl) | (rw [if_neg (by decide +kernel)]; exact ⟨rfl, rfl⟩))
    (fun os started H enc _ => lifted os started H enc)
end Go.Proofs.Ytdmkaclihopmkaa.keyTurns
