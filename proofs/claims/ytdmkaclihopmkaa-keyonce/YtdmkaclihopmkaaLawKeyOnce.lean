/-
  KeyOnce returns true at every input, and turns nothing that was there: what is put is in it, and dropped again nothing has changed; what is in it can't be put; what is not can't be dropped (at most 40 keys).
-/
import Derived.Test.YtdmkaclihopmkaaKyQ
import Derived.Test.YtdmkaclihopmkaaPost
namespace Go.Proofs.Ytdmkaclihopmkaa.keyOnce
open Go.ChangeShapes Go.WideShapes Go.ChangeAt Go.RowKit Go.Sort Wd Tn Ky

/-- What was put in, dropped again. -/
theorem drop_put {m : Int} {s : List K} {n : K} (hk : ∀ x ∈ s, Kin x) (hn : Kin n) (hok : okK m s) (hno : n.2 ∉ idsK s) : dropE m (insK m n s) n.2 = 0 ∧ dropL m (insK m n s) n.2 = s := by
  have hno' : ¬ idxK n.2 s < s.length := fun h => hno (idxK_mem.1 h)
  have hok2 := insK_ok hk hn hok hno'
  have hmem : n.2 ∈ idsK (insK m n s) := List.mem_map.2 ⟨n, (insK_perm m n s).mem_iff.2 (List.mem_cons_self ..), rfl⟩
  have hlt := idxK_mem.2 hmem
  obtain ⟨h1, h2⟩ := drop_has hok2 hlt
  refine ⟨h1, ?_⟩
  have hp := posK_le m n s
  have hi : idxK n.2 (insK m n s) = posK m n s := by
    rw [insK_pos hok]
    refine idxK_at (by simp; omega) ?_ (fun j hj e => ?_)
    · simp [List.getD, List.length_take, Nat.min_eq_left hp]
    · have hjs : j < s.length := by omega
      have : (s.take (posK m n s) ++ n :: s.drop (posK m n s)).getD j (0, 0) = s.getD j (0, 0) := by
        simp only [List.getD]
        rw [List.getElem?_append_left (by rw [List.length_take]; omega), List.getElem?_take_of_lt hj]
      rw [this] at e
      exact hno (List.mem_map.2 ⟨s.getD j (0, 0), by simp [List.getD, hjs], e⟩)
  rw [h2, hi, insK_pos hok]
  have e1 : (s.take (posK m n s) ++ n :: s.drop (posK m n s)).take (posK m n s) = s.take (posK m n s) := by
    rw [List.take_append_of_le_length (by rw [List.length_take]; omega), List.take_take, Nat.min_self]
  have e2 : (s.take (posK m n s) ++ n :: s.drop (posK m n s)).drop (posK m n s + 1) = s.drop (posK m n s) := by
    rw [List.drop_append, List.length_take, Nat.min_eq_left hp, List.drop_eq_nil_of_le (by rw [List.length_take]; omega), Nat.add_sub_cancel_left]
    rfl
  rw [e1, e2, List.take_append_drop]

set_option maxRecDepth 100000 in
set_option maxHeartbeats 800000 in
theorem walk (m : Int) (v : Value) (zs : List Int) (x : Int) (W : World) (hm : (Lit.int .u64 m).wf = true) (h : Ints .u16 W v zs) (hx : (Lit.int .u16 x).wf = true) :
    Calls Try.prog 8 #[.int .u64 m, v, .int .u16 x] W fun e w' => e = .returned (.bool true) ∧ Below W.heap.size W w' := by
  have HIN := Lib.hid (u16_in h)
  have HK := Lib.hid h
  have hxb := bounds_u16 hx
  have hmb : U m := by have := bounds_u64 hm; unfold U M; omega
  have HMB := Lib.hid hmb
  obtain ⟨V, hV⟩ : ∃ V, IntKind.u64.wrap (m + x) = V := ⟨_, rfl⟩
  obtain ⟨J, hJ⟩ : ∃ J, 64 + x = J := ⟨_, rfl⟩
  have HNK : Hid (Kin (V, J)) := Lib.hid ⟨by rw [← hV]; exact U_wrap _, by unfold I; simp only; omega⟩
  obtain ⟨s, hs⟩ : ∃ s, srtK m (madeK m zs) = s := ⟨_, rfl⟩
  have HSK : Hid (∀ x ∈ s, Near m x) := Lib.hid (fun y hy => madeK_near HIN.out y ((srtK_mem m _ y).1 (hs ▸ hy)))
  have HSL : Hid (s.length ≤ 40) := Lib.hid (by rw [← hs, srtK_length]; exact madeK_len m zs)
  have HOK : Hid (okK m s) := Lib.hid (by rw [← hs]; exact srt_ok (madeK_kin HIN.out) (madeK_nodup m zs))
  have HNO : Hid (J ∉ idsK s) := Lib.hid (fun hmem => by
    obtain ⟨y, hy, e⟩ := List.mem_map.1 hmem
    have := (HSK.out y hy).2.2.2.2
    rw [e] at this
    omega)
  have HML : Hid ((madeK m zs).length ≤ 1000) := Lib.hid (Nat.le_trans (madeK_len m zs) (by omega))
  have HNI : Hid (¬ idxK J s < s.length) := Lib.hid (fun hh => HNO.out (idxK_mem.1 hh))
  have HP1 : Hid (putE m s (V, J) = 0 ∧ putL m s (V, J) = insK m (V, J) s) := Lib.hid (put_new HOK.out (k := (V, J)) HNI.out)
  have HOK2 : Hid (okK m (insK m (V, J) s)) := Lib.hid (insK_ok (fun y hy => (HSK.out y hy).1) HNK.out HOK.out HNI.out)
  have HIL : Hid ((insK m (V, J) s).length = s.length + 1) := Lib.hid (insK_length m (V, J) s)
  have HP2 : Hid (putE m (insK m (V, J) s) (m, J) = 1) := Lib.hid (put_has HOK2.out (k := (m, J)) (idxK_mem.2 (List.mem_map.2 ⟨(V, J), (insK_perm m (V, J) s).mem_iff.2 (List.mem_cons_self ..), rfl⟩))).1
  have HMK : Hid (Kin (m, J)) := Lib.hid ⟨HMB.out, HNK.out.2⟩
  have HD1 : Hid (dropE m (insK m (V, J) s) J = 0 ∧ dropL m (insK m (V, J) s) J = s) := Lib.hid (drop_put (n := (V, J)) (fun y hy => (HSK.out y hy).1) HNK.out HOK.out HNO.out)
  have HD2 := Lib.hid (drop_none HOK.out HNI.out)
  have HS := Lib.hid hs
  clear h hx hm hmb hs
  go_enter Try.func8, Try.ntmps8
  go_wp2_with fail
  refine (awake_any _).mono ?_
  rintro e' w_h1 ⟨rfl, h1⟩
  have HB1 := Lib.hid h1
  have HK1 := Lib.hid (HK.out.below h1)
  clear h1
  go_wp2_with fail
  refine (made_any m HK1.out).mono ?_
  rintro e' w2 ⟨⟨v2, rfl, hK2⟩, hb2⟩
  have HB2 := Lib.hid (bOn HB1.out hb2)
  have HK2 := Lib.hid hK2
  clear hK2 hb2
  go_wp2_with fail
  refine (sort_any m HK2.out HML.out).mono ?_
  rintro e' w3 ⟨⟨v3, rfl, hK3⟩, hb3⟩
  rw [HS.out] at hK3
  have HB3 := Lib.hid (bOn HB2.out hb3)
  have HK3 := Lib.hid hK3
  obtain ⟨a3, c3, rfl, -⟩ := hK3
  clear hb3
  have HL4 : Hid (s.length ≤ 1000) := Lib.hid (by have := HSL.out; omega)
  have HX4 : Hid (Kb (w3.alloc (.cells #[.int .u64 V, .int .i64 J] 26)) w3.heap.size (V, J)) := Lib.hid (Kb.new w3 (V, J))
  have HB4 : Hid (Below W.heap.size W (w3.alloc (.cells #[.int .u64 V, .int .i64 J] 26))) := Lib.hid (HB3.out.alloc HB3.out.size _)
  have HK4 : Hid (Keys (w3.alloc (.cells #[.int .u64 V, .int .i64 J] 26)) (.slice a3 s.length c3) s) := Lib.hid (HK3.out.below ((Below.refl _ _).alloc (Nat.le_refl _) _))
  go_wp2_with fail
  generalize w3.alloc (.cells #[.int .u64 V, .int .i64 J] 26) = w4 at HX4 HB4 HK4 ⊢
  generalize w3.heap.size = q at HX4 ⊢
  refine (put_any m (V, J) HNK.out HK4.out HL4.out).mono ?_
  rintro e' w5 ⟨⟨v5, rfl, hK5⟩, hb5⟩
  rw [HP1.out.2] at hK5
  rw [HP1.out.1]
  have HB5 := Lib.hid (bOn HB4.out hb5)
  have HX5 := Lib.hid (HX4.out.below hb5 HX4.out.lt)
  have HS5 := Lib.hid (HK4.out.below hb5)
  have HP5 := Lib.hid hK5
  obtain ⟨a5, c5, rfl, -⟩ := hK5
  clear hb5
  obtain ⟨g0, g1, -, -, -⟩ := HX5.out.all
  go_wp2_with fail
  refine (put_any m (m, J) HMK.out HP5.out (by rw [HIL.out]; have := HSL.out; omega)).mono ?_
  rintro e' w6 ⟨⟨v6, rfl, -⟩, hb6⟩
  rw [HP2.out]
  have HB6 := Lib.hid (bOn HB5.out hb6)
  have HX6 := Lib.hid (HX5.out.below hb6 HX5.out.lt)
  have HS6 := Lib.hid (HS5.out.below hb6)
  have HP6 := Lib.hid (HP5.out.below hb6)
  clear hb6 g0 g1
  obtain ⟨g0, g1, -, -, -⟩ := HX6.out.all
  go_wp2_with fail
  refine (drop_any m J HNK.out.2 HP6.out (by rw [HIL.out]; have := HSL.out; omega)).mono ?_
  rintro e' w7 ⟨⟨v7, rfl, hK7⟩, hb7⟩
  rw [HD1.out.2] at hK7
  rw [HD1.out.1]
  have HB7 := Lib.hid (bOn HB6.out hb7)
  have HX7 := Lib.hid (HX6.out.below hb7 HX6.out.lt)
  have HS7 := Lib.hid (HS6.out.below hb7)
  have HQ7 := Lib.hid hK7
  obtain ⟨a7, c7, rfl, -⟩ := hK7
  clear hb7 g0 g1
  obtain ⟨g0, g1, -, -, -⟩ := HX7.out.all
  go_wp2_with fail
  refine (drop_any m J HNK.out.2 HS7.out HL4.out).mono ?_
  rintro e' w8 ⟨⟨v8, rfl, -⟩, hb8⟩
  rw [HD2.out.1]
  have HB8 := Lib.hid (bOn HB7.out hb8)
  have HS8 := Lib.hid (HS7.out.below hb8)
  have HQ8 := Lib.hid (HQ7.out.below hb8)
  clear hb8 g0 g1
  have hl1 : (insK m (V, J) s).length = s.length + 1 := HIL.out
  have hl2 : s.length ≤ 40 := HSL.out
  have hd1 : (((s.length : Nat) : Int) != ((s.length : Nat) : Int)) = false := by simp
  rw [hl1]
  go_wp2
  have HPS := Lib.hid HS8.out.parts
  have HPQ := Lib.hid HQ8.out.parts
  go_loopw [18] (fun i wr => ∃ k : Nat, k ≤ s.length ∧ i = .int .i64 k ∧ Hid (Gr w8 wr)) (fun i _ => s.length - (intOf i).toNat)
  case atStart => exact ⟨0, by omega, rfl, Lib.hid (Gr.refl _)⟩
  case round =>
    obtain ⟨k, hk, rfl, HR⟩ := hrel
    by_cases hlt : k < s.length
    · rcases HPS.out with ⟨hnil, -⟩ | ⟨-, b, off, cap', he, -, hb, hc⟩
      · rw [hnil] at hlt; exact absurd hlt (Nat.not_lt_zero _)
      · rcases HPQ.out with ⟨hnil, -⟩ | ⟨-, b', off', cap2, he', -, hb', hc'⟩
        · rw [hnil] at hlt; exact absurd hlt (Nat.not_lt_zero _)
        · simp only [Value.slice.injEq] at he he'
          obtain ⟨rfl, -, rfl⟩ := he
          obtain ⟨rfl, -, rfl⟩ := he'
          obtain ⟨y, hy⟩ : ∃ y, s.getD k (0, 0) = y := ⟨_, rfl⟩
          have c := hc k hlt
          have c' := hc' k hlt
          rw [hy] at c c'
          have p0 := HR.out.cell c.1
          have p1 := HR.out.cell c.2
          have q0 := HR.out.cell c'.1
          have q1 := HR.out.cell c'.2
          have e1 : (y.1 == y.1) = true := by simp
          have e2 : (y.2 == y.2) = true := by simp
          clear c c' hy hc hc' hb hb'
          go_wp2_with fail
          go_quiet (fail)
          go_wp2
          exact ⟨⟨k + 1, by omega, by go_num, Lib.hid (HR.out.trans (Gr.drew _ _))⟩, by simp [intOf]; omega⟩
    · obtain rfl : k = s.length := by omega
      have HF := Lib.hid (bOn HB8.out HR.out.below)
      go_wp2
      go_ret
      exact ⟨rfl, HF.out⟩

set_option maxRecDepth 100000 in
theorem lifted (os : Os) (started : os.Started) (H : Type) (enc : TypeId × Value → H) :
    ReturnsInHanded {} Try.checked os 8 .any (Rows.keyOnceSpec.pre6 enc Try.prog Try.f8 Rows.keyOnceRow.domain false) (Rows.keyOnceSpec.post enc Try.prog Try.f8 false true false false) := by
  refine returnsInHanded_of_change (C := Try.checked) own started (by kernel_rfl) Try.func8
    (ChangeSpec.witness6 (enc := enc) (C := Try.checked) false ⟨#[], #[.int .u64 0, .slice none 0 0, .int .u16 0], []⟩ 8 (by kernel_rfl) (by kernel_rfl) (by kernel_rfl) (by kernel_rfl)) ?_
  intro W base args ds gs before hval0 hW _ _
  have hval : ∀ (j : Nat) t v, Try.f8.params[j]? = some t → args[j]? = some v → Value.okWide Try.prog W .any base t v := hval0
  have hW' := hW
  obtain ⟨p, q, hA0, hV, rfl, -, -⟩ := hW
  have hA : DataW.TrodAll enc Try.prog W 0 (fun _ => true) true Try.f8.params.toList args.toList ds p := hA0
  rw [Try.params8] at hA hval
  obtain ⟨v0, vs0, d0, ds0, p0, q0, hargs, rfl, rfl, h0, r0⟩ := trodAll_cons hA
  obtain ⟨v1, vs1, d1, ds1, p1, q1, rfl, rfl, rfl, h1, r1⟩ := trodAll_cons r0
  obtain ⟨v2, vs2, d2, ds2, p2, q2, rfl, rfl, rfl, h2, r2⟩ := trodAll_cons r1
  obtain ⟨rfl, rfl, rfl⟩ := trodAll_nil r2
  obtain rfl : args = #[v0, v1, v2] := by cases args; simp_all
  obtain ⟨rfl, rfl⟩ := trodVars_none hV
  obtain ⟨a0, rfl, rfl, rfl, w0⟩ := open_int Try.underlying22 (hval 0 22 v0 rfl rfl) h0
  obtain ⟨a1, w1⟩ := ints_arg Try.underlying41 Try.underlying45 (by kernel_rfl) (hval 1 41 v1 rfl rfl) h1
  obtain ⟨a2, rfl, rfl, rfl, w2⟩ := open_int Try.underlying45 (hval 2 45 v2 rfl rfl) h2
  clear hA0 hval0
  refine (walk a0 v1 a1 a2 W w0 w1 w2).mono fun e W' ⟨he, hb⟩ => ?_
  subst he
  exact ⟨_, rfl, post_law laidOut (by kernel_rfl) rfl (by kernel_rfl) Try.underlying4 hW' rfl hb⟩

/-- **KeyOnce**: the given statement. -/
theorem proved : Rows.KeyOnceSaid :=
  OpenClaim.holds_of_wide 8 Try.f8 rfl rfl rfl rfl rfl rfl rfl ⟨rfl, rfl, rfl, rfl, rfl⟩ rfl rfl rfl rfl rfl (by kernel_rfl) Try.func8 (by kernel_rfl)
    (of_decide_eq_true (by kernel_rfl)) (by unfold Func.isWrapper; first | (rw [if_pos (by decide +kernel)]; kernel_rfl) | (rw [if_neg (by decide +kernel)]; exact ⟨rfl, rfl⟩))
    (fun os started H enc _ => lifted os started H enc)
end Go.Proofs.Ytdmkaclihopmkaa.keyOnce
