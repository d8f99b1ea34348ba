/-
  LocksEnds returns true at every input, and turns nothing that was there. No condition.
-/
import Derived.Test.YthbabhmpkniliaaLkE
import Derived.Test.YthbabhmpkniliaaPost
namespace Go.Proofs.Ythbabhmpkniliaa.locksEnds
open Go.ChangeShapes Go.WideShapes Go.ChangeAt Go.RowKit Lk

/-- How many sections the first k jobs have. -/
def up (js : List (List Pr)) (k : Nat) : Nat := lenL (js.take k)
theorem up_succ {js : List (List Pr)} {k : Nat} (h : k < js.length) : up js (k + 1) = up js k + (js.getD k []).length := by
  unfold up lenL
  rw [List.take_succ_eq_append_getElem h, List.map_append, List.sum_append]
  simp [List.getD, h]
theorem up_le {js : List (List Pr)} (h : ∀ i, (js.getD i []).length ≤ 20) : ∀ k, k ≤ js.length → up js k ≤ 20 * k := by
  intro k
  induction k with
  | zero => intro _; simp [up, lenL]
  | succ k ih =>
    intro hk
    rw [up_succ (by omega)]
    have := ih (by omega)
    have := h k
    omega
theorem up_all (js : List (List Pr)) : up js js.length = lenL js := by unfold up; rw [List.take_length]
theorem jobsF_each (zs : List Int) : ∀ i, ((jobsF zs).getD i []).length ≤ 20 := fun i => by
  have := jobsK_each zs (min zs.length 20) i
  show ((jobsK zs (min zs.length 20)).getD i []).length ≤ 20
  omega
theorem rowI_take {m q : Nat} (h : q < m) : (rowI m).take (q + 1) = (rowI m).take q ++ [(q : Int)] := by
  unfold rowI
  rw [List.take_succ_eq_append_getElem (by simpa using h)]
  simp
theorem rowI_len (m : Nat) : (rowI m).length = m := by simp [rowI]
theorem rowsI_len (m : Nat) : ∀ r, (rowsI m r).length = m * r
  | 0 => rfl
  | r + 1 => by show (rowsI m r ++ rowI m).length = _; rw [List.length_append, rowsI_len m r, rowI_len, Nat.mul_succ]
theorem rowI_wf {m : Nat} (hm : m ≤ 5) : ∀ z ∈ rowI m, (Lit.int .i64 z).wf = true := fun z hz => by
  unfold rowI at hz
  obtain ⟨i, hi, rfl⟩ := List.mem_map.1 hz
  have := List.mem_range.1 hi
  exact i64_wf (by show -9223372036854775808 ≤ (i : Int) ∧ (i : Int) ≤ 9223372036854775807; omega)
theorem rowsI_wf {m : Nat} (hm : m ≤ 5) : ∀ r, ∀ z ∈ rowsI m r, (Lit.int .i64 z).wf = true
  | 0, z, hz => by cases hz
  | r + 1, z, hz => by
    rcases List.mem_append.1 (show z ∈ rowsI m r ++ rowI m from hz) with h | h
    · exact rowsI_wf hm r z h
    · exact rowI_wf hm z h
theorem count_snoc (D : List Int) {i : Nat} (h : i < D.length) (k : Int) : (D.take (i + 1)).count k = (D.take i).count k + (if D.getD i 0 = k then 1 else 0) := by
  rw [List.take_succ_eq_append_getElem h, List.count_append]
  simp only [List.getD, List.getElem?_eq_getElem h, Option.getD_some]
  by_cases e : D[i] = k
  · rw [if_pos e, e]; simp
  · rw [if_neg e]; have : List.count k [D[i]] = 0 := List.count_eq_zero.2 (by intro h; exact e (List.mem_singleton.1 h).symm)
    rw [this]

set_option maxRecDepth 100000 in
set_option maxHeartbeats 4000000 in
theorem walk (v0 : Value) (zs : List Int) (v1 : Value) (ps : List Int) (W : World) (h0 : Ints .u16 W v0 zs) (h1 : Ints .u8 W v1 ps) :
    Calls Try.prog 7 #[v0, v1] W fun e w' => e = .returned (.bool true) ∧ Below W.heap.size W w' := by
  have H0 := Lib.hid h0
  have H1 := Lib.hid h1
  clear h0 h1
  go_enter Try.func7, Try.ntmps7
  go_wp2_with fail
  refine (awake_any W).mono ?_
  rintro e w1 ⟨rfl, hb1⟩
  have HB1 := Lib.hid hb1
  clear hb1
  go_wp2_with fail
  refine (jobs_any (H0.out.below HB1.out)).mono ?_
  rintro e w2 ⟨⟨vj, rfl, hj⟩, hb2⟩
  obtain ⟨aj, cj, rfl⟩ := jbs_shape hj
  have HJ := Lib.hid hj
  have HB2 := Lib.hid (bOn HB1.out hb2)
  obtain ⟨m, hm⟩ : ∃ m, manyF zs = m := ⟨_, rfl⟩
  have HMZ := Lib.hid hm
  have hL : (jobsF zs).length = m := by rw [← hm]; exact jobsF_len zs
  have hML : 2 ≤ m ∧ m ≤ 5 := by rw [← hm]; exact manyF_le zs
  obtain ⟨hm2, hm5⟩ := hML
  rw [hL]
  rw [hL] at HJ
  clear hj hb2 HB1 hm hL
  have HEN := Lib.hid (fun A => ends_all zs A)
  have HUP := Lib.hid (fun k hk => up_le (jobsF_each zs) k hk)
  have HUS := Lib.hid (fun k hk => up_succ (js := jobsF zs) (k := k) hk)
  have HUA := Lib.hid (up_all (jobsF zs))
  have HPE := Lib.hid (play6_e zs)
  have HJL := Lib.hid (jobsF_len zs)
  rw [HMZ.out] at HEN HJL
  generalize jobsF zs = js at HJ HEN HUP HUS HUA HPE HJL
  rw [HJL.out] at HUP HUS HUA
  obtain ⟨N0, hN0⟩ : ∃ N0, lenL js = N0 := ⟨_, rfl⟩
  have hN1 : N0 ≤ 100 := by have := HUP.out m (Nat.le_refl _); rw [HUA.out, hN0] at this; omega
  rw [hN0] at HEN HUA
  have HN0 := Lib.hid hN0
  clear hN0
  obtain ⟨aj0, cj0, ej, hjs⟩ := HJ.out.parts
  rcases hjs with hnil | ⟨bj, oj, rfl, hbj, hcj⟩
  · have := HJL.out; rw [hnil] at this; simp at this; omega
  obtain rfl : aj = some ⟨bj, oj, none⟩ := by simp only [Value.slice.injEq] at ej; exact ej.1
  have HCJ : Hid (∀ X, Below w2.heap.size w2 X → ∀ k, k < m → ∃ (a : Option Addr) (c : Nat), X.cell? ⟨bj, oj + k, none⟩ = some (.slice a (js.getD k []).length c)) := Lib.hid (fun X hX k hk => by
    obtain ⟨u, x1, x2⟩ := hcj k (by rw [HJL.out]; exact hk)
    obtain ⟨a, c, e, -⟩ := x2
    exact ⟨a, c, (hX.cell (World.block_lt_of_cell? w2 _ x1)).trans (by rw [x1, e])⟩)
  clear ej hbj hcj
  go_wp2_with fail
  refine (picks_any (H1.out.below HB2.out) (m := m) (by omega)).mono ?_
  rintro e w3 ⟨⟨va, rfl, hp⟩, hb3⟩
  have HA := Lib.hid hp
  have HAW := Lib.hid (fun z hz => i64_wf (n := z) (by have := picksF_wf (m := m) (by omega) ps z hz; omega))
  have HAL := Lib.hid (picksF_len m ps)
  have HB3 := Lib.hid hb3
  generalize picksF m ps = A at HA HAW HAL
  clear hp hb3
  go_wp2
  go_loopw [8, 9] (fun x u wr => ∃ k : Nat, k ≤ m ∧ u = .int .i64 k ∧ x = .int .i64 (up js k) ∧ w3 = wr) (fun _ u _ => m - (intOf u).toNat)
  case atStart => exact ⟨0, by omega, rfl, rfl, rfl⟩
  case round =>
    obtain ⟨k, hk, rfl, rfl, rfl⟩ := hrel
    by_cases hlt : k < m
    · obtain ⟨a9, c9, x1⟩ := HCJ.out _ HB3.out k hlt
      have HU := Lib.hid (HUS.out k hlt)
      have hu1 := HUP.out (k + 1) (by omega)
      rw [HU.out] at hu1
      obtain ⟨l9, hl9⟩ : ∃ l9, (js.getD k []).length = l9 := ⟨_, rfl⟩
      obtain ⟨u9, hu9⟩ : ∃ u9, up js k = u9 := ⟨_, rfl⟩
      rw [hl9] at x1 HU hu1
      rw [hu9] at HU hu1 ⊢
      clear hl9 hu9
      go_wp2
      exact ⟨⟨k + 1, by omega, by go_num, by rw [HU.out]; go_num, trivial⟩, by simp [intOf]; omega⟩
    · obtain rfl : k = m := by omega
      rw [HUA.out]
      go_wp2
      go_loopw [7, 10] (fun x u wr => ∃ r : Nat, r ≤ 3 * N0 ∧ u = .int .i64 r ∧ Hid (Own .i64 wr w2.heap.size 3 x (A ++ rowsI k r) ∧ Below w2.heap.size w2 wr)) (fun _ u _ => 3 * N0 - (intOf u).toNat)
      case atStart => exact ⟨0, by omega, rfl, Lib.hid ⟨by show Own _ _ _ _ _ (A ++ []); rw [List.append_nil]; exact HA.out, HB3.out⟩⟩
      case round =>
        obtain ⟨r, hr, rfl, HR⟩ := hrel
        by_cases hlr : r < 3 * N0
        · have hdr : decide ((r : Int) < 3 * (N0 : Int)) = true := decide_eq_true (by omega)
          go_wp2
          go_loopw [7, 11] (fun x u wr => ∃ q : Nat, q ≤ k ∧ u = .int .i64 q ∧ Hid (Own .i64 wr w2.heap.size 3 x (A ++ rowsI k r ++ (rowI k).take q) ∧ Below w2.heap.size w2 wr)) (fun _ u _ => k - (intOf u).toNat)
          case atStart => exact ⟨0, by omega, rfl, Lib.hid ⟨by rw [List.take_zero, List.append_nil]; exact HR.out.1, HR.out.2⟩⟩
          case round =>
            obtain ⟨q, hq, rfl, HQ⟩ := hrel
            by_cases hlq : q < k
            · have HO := Lib.hid HQ.out.1
              have HB := Lib.hid HQ.out.2
              have HI1 := Lib.hid (ints_new (k := .i64) wr 3 [(q : Int)] (by simp [maxLen]) (by intro y hy; simp at hy; subst hy; exact i64_wf (by omega)))
              have HRL : Hid ((A ++ rowsI k r ++ (rowI k).take q).length ≤ 3000) := Lib.hid (by
                have h1 := HAL.out
                have h2 : k * r ≤ 5 * 300 := Nat.mul_le_mul (by omega) (by omega)
                simp only [List.length_append, rowsI_len, List.length_take, rowI_len]
                omega)
              have HSN : Hid (A ++ rowsI k r ++ (rowI k).take (q + 1) = (A ++ rowsI k r ++ (rowI k).take q) ++ [(q : Int)]) := Lib.hid (by rw [rowI_take hlq, ← List.append_assoc])
              generalize A ++ rowsI k r ++ (rowI k).take q = L9 at HO HRL HSN
              clear HQ
              go_wp2_with (at_builtin; refine wpList_append_ints (k := .i64) (bytes := 8) rfl (.tmp 54) (.tmp 56) 22 rfl w2.heap.size 3 Try.underlying22 ints_info (by decide) L9 [(q : Int)] (HO.out.alloc _) HI1.out (by have := HRL.out; simp only [List.length_cons, List.length_nil]; omega) (by have := HB.out.size; rw [heap_size_alloc]; omega) ?_; intro v' w9 hown9 hbel9)
              have hb9 : Below w2.heap.size w2 w9 := (HB.out.alloc HB.out.size _).trans hbel9
              exact ⟨⟨q + 1, by omega, by go_num, Lib.hid ⟨by rw [HSN.out]; exact hown9, hb9⟩⟩, by simp [intOf]; omega⟩
            · obtain rfl : q = k := by omega
              have HQ2 := HQ.out
              rw [List.take_of_length_le (by rw [rowI_len]; exact Nat.le_refl _), List.append_assoc] at HQ2
              replace HQ2 := Lib.hid HQ2
              go_wp2
              exact ⟨⟨r + 1, by omega, by go_num, HQ2⟩, by simp [intOf]; omega⟩
        · obtain rfl : r = 3 * N0 := by omega
          have hdr : decide (((3 * N0 : Nat) : Int) < 3 * (N0 : Int)) = false := decide_eq_false (by omega)
          have hI9 := HR.out.1.ints (fun z hz => by
            rcases List.mem_append.1 hz with h | h
            · exact HAW.out z h
            · exact rowsI_wf (by omega) _ z h)
          have hlen : (A ++ rowsI k (3 * N0)).length ≤ 20000 := by
            have h1 := HAL.out
            have h2 : k * (3 * N0) ≤ 5 * 300 := Nat.mul_le_mul (by omega) (by omega)
            rw [List.length_append, rowsI_len]; omega
          have HPL := Play_any (n := 6) (o := true) (HJ.out.below HR.out.2) hI9 hlen
          rw [HPE.out] at HPL
          obtain ⟨f1, f2, f3, f4⟩ := HEN.out A _ rfl
          generalize playS 6 js true (A ++ rowsI k (3 * N0)) = s at HPL f1 f2 f3 f4
          replace HPL := Lib.hid HPL
          have HBR := Lib.hid HR.out.2
          have F1 := Lib.hid f1
          have F2 := Lib.hid f2
          have F3 := Lib.hid f3
          have F4 := Lib.hid f4
          clear f1 f2 f3 f4 hI9 hlen HR
          go_wp2_with fail
          refine HPL.out.mono ?_
          rintro e w5 ⟨⟨vb, vw, vd, rfl, hb, hw, hd⟩, hb5⟩
          rw [if_pos rfl] at hb hd
          obtain ⟨ab, cb, rfl⟩ := ints_shape hb
          obtain ⟨ad, cd, rfl⟩ := ints_shape hd
          have hg6 := (Below.refl w5.heap.size w5).alloc (Nat.le_refl _) (.cells #[.slice ab s.b.length cb] 24)
          have HV6 := Lib.hid (hb.below hg6)
          have HD6 := Lib.hid (hd.below hg6)
          have HB6 := Lib.hid ((HBR.out.trans (hb5.mono HBR.out.size)).alloc (by have := HBR.out.size; have := hb5.size; omega) (.cells #[.slice ab s.b.length cb] 24))
          have hc0 := (at_new w5 (.slice ab s.b.length cb) 24).1
          rw [F2.out] at HV6 HD6 HB6 hc0 ⊢
          rw [F4.out] at HD6 ⊢
          clear hb hw hd hb5 hg6
          rcases HV6.out.parts with ⟨e, -⟩ | ⟨-, -, bb, ob, cb2, e, hbb, hcb⟩
          · have := F2.out; rw [e] at this; simp at this
          obtain rfl : ab = some ⟨bb, ob, none⟩ := by simp only [Value.slice.injEq] at e; exact e.1
          have HCB : Hid (∀ y, y < 6 → (w5.alloc (.cells #[.slice (some ⟨bb, ob, none⟩) 6 cb] 24)).cell? ⟨bb, ob + y, none⟩ = some (.int .i64 (-1))) := Lib.hid (fun y hy => by rw [hcb y (by rw [F2.out]; exact hy), F1.out y hy])
          clear hcb e hbb
          go_wp2_with fail
          generalize w5.alloc (.cells #[.slice (some ⟨bb, ob, none⟩) 6 cb] 24) = w6 at HV6 HD6 HB6 hc0 HCB ⊢
          go_loopw [16] (fun u wr => ∃ y : Nat, y ≤ 6 ∧ u = .int .i64 y ∧ w6 = wr) (fun u _ => 6 - (intOf u).toNat)
          case atStart => exact ⟨0, by omega, rfl, rfl⟩
          case round =>
            obtain ⟨y, hy, rfl, rfl⟩ := hrel
            by_cases hly : y < 6
            · have c1 := HCB.out y hly
              have hdy : decide ((y : Int) < 6) = true := decide_eq_true (by omega)
              go_wp2
              exact ⟨⟨y + 1, by omega, by go_num, trivial⟩, by simp [intOf]; omega⟩
            · obtain rfl : y = 6 := by omega
              have hdy : decide (((6 : Nat) : Int) < 6) = false := by decide
              go_wp2
              go_loopw [17] (fun u wr => ∃ q : Nat, q ≤ k ∧ u = .int .i64 q ∧ w6 = wr) (fun u _ => k - (intOf u).toNat)
              case atStart => exact ⟨0, by omega, rfl, rfl⟩
              case round =>
                obtain ⟨q, hq, rfl, rfl⟩ := hrel
                by_cases hlq : q < k
                · have HF := Lib.hid (F3.out q hlq)
                  obtain ⟨a9, c9, x1⟩ := HCJ.out _ HB6.out q hlq
                  obtain ⟨l9, hl9⟩ : ∃ l9, (js.getD q []).length = l9 := ⟨_, rfl⟩
                  rw [hl9] at x1 HF
                  have hcnt : ∀ i, (s.D.take i).count (q : Int) ≤ 100 := fun i => by
                    have h1 := List.count_le_length (a := (q : Int)) (l := s.D.take i)
                    rw [List.length_take] at h1
                    have := F4.out
                    omega
                  have HCN := Lib.hid hcnt
                  clear hl9 hcnt
                  go_wp2
                  go_loopw [18, 19] (fun x u wr => ∃ i : Nat, i ≤ N0 ∧ u = .int .i64 i ∧ x = .int .i64 ((s.D.take i).count (q : Int) : Nat) ∧ w6 = wr) (fun _ u _ => N0 - (intOf u).toNat)
                  case atStart => exact ⟨0, by omega, rfl, by simp, rfl⟩
                  case round =>
                    obtain ⟨i, hi, rfl, rfl, rfl⟩ := hrel
                    by_cases hli : i < N0
                    · rcases HD6.out.parts with ⟨e, -⟩ | ⟨-, -, bd, od, c8, e, hbd, hcd⟩
                      · have := F4.out; rw [e] at this; simp at this; omega
                      obtain rfl : ad = some ⟨bd, od, none⟩ := by simp only [Value.slice.injEq] at e; exact e.1
                      have c2 := hcd i (by rw [F4.out]; exact hli)
                      have HCS := Lib.hid (count_snoc s.D (i := i) (by rw [F4.out]; exact hli) (q : Int))
                      have hc1 := HCN.out i
                      generalize s.D.getD i 0 = z at c2 HCS
                      generalize (s.D.take i).count (q : Int) = ct at HCS hc1 ⊢
                      clear hcd e hbd
                      by_cases hz : z = q
                      · have hz1 : (z == (q : Int)) = true := by simp [hz]
                        have HCS2 : Hid ((s.D.take (i + 1)).count (q : Int) = ct + 1) := Lib.hid (by rw [HCS.out, if_pos hz])
                        clear hz
                        go_wp2
                        exact ⟨⟨i + 1, by omega, by go_num, by rw [HCS2.out]; go_num, trivial⟩, by simp [intOf]; omega⟩
                      · have hz1 : (z == (q : Int)) = false := by simp [hz]
                        have HCS2 : Hid ((s.D.take (i + 1)).count (q : Int) = ct) := Lib.hid (by rw [HCS.out, if_neg hz]; rfl)
                        clear hz
                        go_wp2
                        exact ⟨⟨i + 1, by omega, by go_num, by rw [HCS2.out], trivial⟩, by simp [intOf]; omega⟩
                    · obtain rfl : i = N0 := by omega
                      rw [List.take_of_length_le (by rw [F4.out]; exact Nat.le_refl _), HF.out]
                      have hll : ((l9 : Int) != (l9 : Int)) = false := by simp
                      go_wp2
                      exact ⟨⟨q + 1, by omega, by go_num, trivial⟩, by simp [intOf]; omega⟩
                · obtain rfl : q = k := by omega
                  have hnn : ((N0 : Int) == (N0 : Int)) = true := by simp
                  go_wp2
                  go_ret
                  exact ⟨rfl, bOn HB2.out HB6.out⟩

set_option maxRecDepth 100000 in
theorem lifted (os : Os) (started : os.Started) (H : Type) (enc : TypeId × Value → H) :
    ReturnsInHanded {} Try.checked os 7 .any (Rows.locksEndsSpec.pre6 enc Try.prog Try.f7 Rows.locksEndsRow.domain false) (Rows.locksEndsSpec.post enc Try.prog Try.f7 false true false false) := by
  refine returnsInHanded_of_change (C := Try.checked) own started (by kernel_rfl) Try.func7
    (ChangeSpec.witness6 (enc := enc) (C := Try.checked) false ⟨#[], #[.slice none 0 0, .slice none 0 0], []⟩ 8 (by kernel_rfl) (by kernel_rfl) (by kernel_rfl) (by kernel_rfl)) ?_
  intro W base args ds gs before hval0 hW _ _
  have hval : ∀ (j : Nat) t v, Try.f7.params[j]? = some t → args[j]? = some v → Value.okWide Try.prog W .any base t v := hval0
  have hW' := hW
  obtain ⟨p, q, hA0, hV, rfl, -, -⟩ := hW
  have hA : DataW.TrodAll enc Try.prog W 0 (fun _ => true) true Try.f7.params.toList args.toList ds p := hA0
  rw [Try.params7] at hA hval
  obtain ⟨v0, vs0, d0, ds0, p0, q0, hargs, rfl, rfl, h0, r0⟩ := trodAll_cons hA
  obtain ⟨v1, vs1, d1, ds1, p1, q1, rfl, rfl, rfl, h1, r1⟩ := trodAll_cons r0
  obtain ⟨rfl, rfl, rfl⟩ := trodAll_nil r1
  obtain rfl : args = #[v0, v1] := by cases args; simp_all
  obtain ⟨rfl, rfl⟩ := trodVars_none hV
  obtain ⟨a0, w0⟩ := ints_arg Try.underlying46 Try.underlying74 (by kernel_rfl) (hval 0 46 v0 rfl rfl) h0
  obtain ⟨a1, w1⟩ := ints_arg Try.underlying47 Try.underlying5 (by kernel_rfl) (hval 1 47 v1 rfl rfl) h1
  clear hA0 hval0
  refine (walk v0 a0 v1 a1 W w0 w1).mono fun e W' ⟨he, hb⟩ => ?_
  subst he
  exact ⟨_, rfl, post_law laidOut (by kernel_rfl) rfl (by kernel_rfl) Try.underlying4 hW' rfl hb⟩

/-- **LocksEnds**: the given statement. -/
theorem proved : Rows.LocksEndsSaid :=
  OpenClaim.holds_of_wide 7 Try.f7 rfl rfl rfl rfl rfl rfl rfl ⟨rfl, rfl, rfl, rfl, rfl⟩ rfl rfl rfl rfl rfl (by kernel_rfl) Try.func7 (by kernel_rfl)
    (of_decide_eq_true (by kernel_rfl)) (by unfold Func.isWrapper; first | (rw [if_pos (by decide +kernel)]; kernel_rfl) | (rw [if_neg (by decide +kernel)]; exact ⟨rfl, rfl⟩))
    (fun os started H enc _ => lifted os started H enc)
end Go.Proofs.Ythbabhmpkniliaa.locksEnds
