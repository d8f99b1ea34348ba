/-
  KeyMade returns true at every input, and turns nothing that was there: keys that are sorted are so, the first one of all is the first one of them; put one by one, in whatever order, they come to the same, and dropped one by one to none (at most 40 keys).
-/
import Derived.Test.YtdmkaclihopmkaaKyQ
import Derived.Test.YtdmkaclihopmkaaPost
import Derived.Deep.DeepCutAuto
namespace Go.Proofs.Ytdmkaclihopmkaa.keyMade
open Go.ChangeShapes Go.WideShapes Go.ChangeAt Go.RowKit Go.Sort Wd Tn Ky

/-- The order in which they are put. -/
def turned (back : Bool) (l : List K) : List K := if back = true then l.reverse else l
theorem turned_perm (back : Bool) (l : List K) : (turned back l).Perm l := by unfold turned; split; exact List.reverse_perm l; exact .refl _
theorem turned_length (back : Bool) (l : List K) : (turned back l).length = l.length := (turned_perm back l).length_eq
theorem turned_at (l : List K) (j r : Nat) (h : r + j + 1 = l.length) : (turned true l).getD j (0, 0) = l.getD r (0, 0) := by
  unfold turned
  rw [if_pos rfl]
  simp only [List.getD]
  rw [List.getElem?_reverse (by omega), show l.length - 1 - j = r by omega]

theorem met_gr (m : Int) (a : Option Addr) (cap : Nat) (W : World) : Calls Try.prog 26 #[.int .u64 m, .slice a 0 cap] W fun e w' => e = .returned (.tuple #[.map (some W.heap.size), .bool true]) ∧ Gr W w' := by
  have hmm := @run_makeMap Try.prog
  go_enter Try.func26, Try.ntmps26
  go_wp2
  refine wp_loop_rounds 1 ?_
  rw [rounds_succ]
  go_wp2
  go_ret2
  exact ⟨rfl, Gr.alloc _ _⟩
theorem sorted_gr (m : Int) (a : Option Addr) (cap : Nat) (W : World) : Calls Try.prog 14 #[.int .u64 m, .slice a 0 cap] W fun e w' => e = .returned (.bool true) ∧ Gr W w' := by
  go_enter Try.func14, Try.ntmps14
  go_wp2_with fail
  refine (met_gr m a cap W).mono ?_
  rintro e' w1 ⟨rfl, hg⟩
  go_wp2
  go_ret
  exact ⟨rfl, hg⟩

set_option maxRecDepth 100000 in
set_option maxHeartbeats 800000 in
theorem walk (m : Int) (v : Value) (zs : List Int) (back : Bool) (W : World) (_hm : (Lit.int .u64 m).wf = true) (h : Ints .u16 W v zs) :
    Calls Try.prog 6 #[.int .u64 m, v, .bool back] W fun e w' => e = .returned (.bool true) ∧ Below W.heap.size W w' := by
  have mixed : Try.prog.follows .mixedOrders = true := by kernel_rfl
  have HIN := Lib.hid (u16_in h)
  have HK := Lib.hid h
  obtain ⟨L, hL⟩ : ∃ L, madeK m zs = L := ⟨_, rfl⟩
  have HLK : Hid (∀ x ∈ L, Kin x) := Lib.hid (by rw [← hL]; exact madeK_kin HIN.out)
  have HLL : Hid (L.length ≤ 40) := Lib.hid (by rw [← hL]; exact madeK_len m zs)
  have HLN : Hid ((idsK L).Nodup) := Lib.hid (by rw [← hL]; exact madeK_nodup m zs)
  obtain ⟨T, hT⟩ : ∃ T, turned back L = T := ⟨_, rfl⟩
  have HTP : Hid (T.Perm L) := Lib.hid (hT ▸ turned_perm back L)
  have HTK : Hid (∀ x ∈ T, Kin x) := Lib.hid (fun x hx => HLK.out x (HTP.out.mem_iff.1 hx))
  have HTN : Hid ((idsK T).Nodup) := Lib.hid (by have h1 := HLN.out; unfold idsK at h1 ⊢; exact ((HTP.out.map Prod.snd).nodup_iff).2 h1)
  have HTL : Hid (T.length = L.length) := Lib.hid HTP.out.length_eq
  obtain ⟨s, hs⟩ : ∃ s, srtK m L = s := ⟨_, rfl⟩
  have HSL : Hid (s.length = L.length) := Lib.hid (by rw [← hs]; exact srtK_length m L)
  have HST : Hid (srtK m T = s) := Lib.hid (by rw [← hs]; exact srt_perm HTK.out HTP.out)
  have HOK : Hid (okK m s) := Lib.hid (by rw [← hs]; exact srt_ok HLK.out HLN.out)
  have HSM : Hid (∀ x, x ∈ s ↔ x ∈ L) := Lib.hid (fun x => by rw [← hs]; exact srtK_mem m L x)
  have HFS : Hid (0 < L.length → firstK m L = s.getD 0 (0, 0)) := Lib.hid (fun hp => by rw [← hs]; exact first_srt HLK.out hp)
  have HL := Lib.hid hL
  have HS := Lib.hid hs
  have HT := Lib.hid hT
  have hll : L.length ≤ 40 := HLL.out
  clear h hL hs hT
  go_enter Try.func6, Try.ntmps6
  go_wp2_with fail
  refine (awake_any _).mono ?_
  rintro e' w_h1 ⟨rfl, h1⟩
  have HB1 := Lib.hid h1
  have HK1 := Lib.hid (HK.out.below h1)
  clear h1
  go_wp2_with fail
  refine (made_any m HK1.out).mono ?_
  rintro e' w2 ⟨⟨v2, rfl, hK2⟩, hb2⟩
  rw [HL.out] at hK2
  have HB2 := Lib.hid (bOn HB1.out hb2)
  have HK2 := Lib.hid hK2
  obtain ⟨a2, c2, rfl, -⟩ := hK2
  clear hb2
  go_wp2_with fail
  refine (sort_any m HK2.out (by omega)).mono ?_
  rintro e' w3 ⟨⟨v3, rfl, hK3⟩, hb3⟩
  rw [HS.out] at hK3
  have HB3 := Lib.hid (bOn HB2.out hb3)
  have HK3 := Lib.hid (HK2.out.below hb3)
  have HP3 := Lib.hid HK3.out.parts
  have HS3 := Lib.hid hK3
  obtain ⟨a3, c3, rfl, -⟩ := hK3
  clear hb3
  go_wp2
  go_loopw [10, 11] (fun p i wr => ∃ j : Nat, j ≤ L.length ∧ i = .int .i64 j ∧ Hid (Keys wr p (srtK m (T.take j)) ∧ Below w3.heap.size w3 wr)) (fun _ i _ => L.length - (intOf i).toNat)
  case atStart => exact ⟨0, by omega, rfl, Lib.hid ⟨nil_keys _, Below.refl _ _⟩⟩
  case round =>
    obtain ⟨j, hj, rfl, HR⟩ := hrel
    by_cases hlt : j < L.length
    · rcases HP3.out with ⟨hnil, -⟩ | ⟨-, b, off, cap', he, -, hb, hc⟩
      · rw [hnil] at hlt; exact absurd hlt (Nat.not_lt_zero _)
      · simp only [Value.slice.injEq] at he
        obtain ⟨rfl, -, rfl⟩ := he
        obtain ⟨x, hx⟩ : ∃ x, L.getD j (0, 0) = x := ⟨_, rfl⟩
        have c := hc j hlt
        rw [hx] at c
        have f0 := (HR.out.2.cell (p := ⟨b, off + j * 2, none⟩) hb).trans c.1
        have f1 := (HR.out.2.cell (p := ⟨b, off + j * 2 + 1, none⟩) hb).trans c.2
        obtain ⟨y, hy⟩ : ∃ y, T.getD j (0, 0) = y := ⟨_, rfl⟩
        have HYK : Hid (Kin y) := Lib.hid (by rw [← hy]; exact HTK.out _ (by simp [List.getD, HTL.out, hlt]))
        have HPA := Lib.hid (by have := put_all (m := m) HTK.out HTN.out j (by rw [HTL.out]; exact hlt); rw [hy] at this; exact this)
        have HPL : Hid ((srtK m (T.take j)).length ≤ 1000) := Lib.hid (by rw [srtK_length, List.length_take]; omega)
        have HB0 := Lib.hid HR.out.2
        cases back with
        | false =>
          have hxy : x = y := by
            rw [← hx, ← hy, ← HT.out]; rfl
          have HXY := Lib.hid hxy
          have HBA : Hid (Below w3.heap.size w3 (wr.alloc (.cells #[.int .u64 x.1, .int .i64 x.2] 26))) := Lib.hid (HR.out.2.alloc HR.out.2.size _)
          have HKA : Hid (Keys (wr.alloc (.cells #[.int .u64 x.1, .int .i64 x.2] 26)) u10 (srtK m (T.take j))) := Lib.hid (HR.out.1.below ((Below.refl _ _).alloc (Nat.le_refl _) _))
          clear c hx hy hxy hc hb
          go_wp2_with fail
          have HPU := Lib.hid (put_any m x (by rw [HXY.out]; exact HYK.out) HKA.out HPL.out)
          refine HPU.out.mono ?_
          rintro e' w4 ⟨⟨v4, rfl, hK4⟩, hb4⟩
          rw [HXY.out, HPA.out.2] at hK4
          rw [HXY.out, HPA.out.1]
          have HK4 := Lib.hid hK4
          have HB4 := Lib.hid (bOn HBA.out hb4)
          clear hK4 hb4
          go_wp2
          exact ⟨⟨j + 1, by omega, by go_num, Lib.hid ⟨HK4.out, HB4.out⟩⟩, by simp [intOf]; omega⟩
        | true =>
          obtain ⟨r, hr⟩ : ∃ r, r + j + 1 = L.length := ⟨L.length - 1 - j, by omega⟩
          have hyr : L.getD r (0, 0) = y := by rw [← hy, ← HT.out, turned_at L j r hr]
          have cr := hc r (by omega)
          rw [hyr] at cr
          have g0 := (Gr.alloc wr (.cells #[.int .u64 x.1, .int .i64 x.2] 26)).cell ((HR.out.2.cell (p := ⟨b, off + r * 2, none⟩) hb).trans cr.1)
          have g1 := (Gr.alloc wr (.cells #[.int .u64 x.1, .int .i64 x.2] 26)).cell ((HR.out.2.cell (p := ⟨b, off + r * 2 + 1, none⟩) hb).trans cr.2)
          have hri : (L.length : Int) - 1 - (j : Int) = (r : Int) := by omega
          have hrl : r < L.length := by omega
          have HBA : Hid (Below w3.heap.size w3 (wr.alloc (.cells #[.int .u64 y.1, .int .i64 y.2] 26))) := Lib.hid (HR.out.2.alloc HR.out.2.size _)
          have HKA : Hid (Keys (wr.alloc (.cells #[.int .u64 y.1, .int .i64 y.2] 26)) u10 (srtK m (T.take j))) := Lib.hid (HR.out.1.below ((Below.refl _ _).alloc (Nat.le_refl _) _))
          clear c hx hy hc hb cr hyr hr
          go_wp2_with fail
          refine (put_any m y HYK.out HKA.out HPL.out).mono ?_
          rintro e' w4 ⟨⟨v4, rfl, hK4⟩, hb4⟩
          rw [HPA.out.2] at hK4
          rw [HPA.out.1]
          have HK4 := Lib.hid hK4
          have HB4 := Lib.hid (bOn HBA.out hb4)
          clear hK4 hb4 hri
          go_wp2
          exact ⟨⟨j + 1, by omega, by go_num, Lib.hid ⟨HK4.out, HB4.out⟩⟩, by simp [intOf]; omega⟩
    · obtain rfl : j = L.length := by omega
      have hr := HR.out
      rw [List.take_of_length_le (by rw [HTL.out]; exact Nat.le_refl _), HST.out] at hr
      have HPP := Lib.hid hr.1
      have HB4 := Lib.hid hr.2
      have HK4 := Lib.hid (HK3.out.below hr.2)
      have HS4 := Lib.hid (HS3.out.below hr.2)
      obtain ⟨a4, c4, hu, -⟩ := hr.1
      clear hr HR
      obtain ⟨z, hz⟩ : ∃ z, firstK m L = z := ⟨_, rfl⟩
      obtain ⟨fb, hfb⟩ : ∃ fb, firstB L = fb := ⟨_, rfl⟩
      have HZ := Lib.hid hz
      have HFB := Lib.hid hfb
      clear hz hfb
      subst hu
      go_wp2_with fail
      refine (first_any m HK4.out (by omega)).mono ?_
      rintro e' w5 ⟨rfl, hb5⟩
      rw [HZ.out, HFB.out]
      have HX6 : Hid (Kb (w5.alloc (.cells #[.int .u64 z.1, .int .i64 z.2] 26)) w5.heap.size z) := Lib.hid (Kb.new w5 z)
      have hb6 : Below wr.heap.size wr (w5.alloc (.cells #[.int .u64 z.1, .int .i64 z.2] 26)) := bOn hb5 (Gr.alloc _ _).below
      have HB6 := Lib.hid (bOn HB3.out (bOn HB4.out hb6))
      have HK6 := Lib.hid (HK4.out.below hb6)
      have HS6 := Lib.hid (by have h1 := HS4.out.below hb6; rw [HSL.out] at h1; exact h1)
      have HP6 := Lib.hid (by have h1 := HPP.out.below hb6; rw [HSL.out] at h1; exact h1)
      clear hb5 hb6
      rw [HSL.out]
      go_wp2_with fail
      generalize w5.alloc (.cells #[.int .u64 z.1, .int .i64 z.2] 26) = w6 at HX6 HB6 HK6 HS6 HP6 ⊢
      generalize w5.heap.size = q at HX6 ⊢
      obtain ⟨x0, x1, -, -, -⟩ := HX6.out.all
      have hnn : (((L.length : Nat) : Int) != ((L.length : Nat) : Int)) = false := by simp
      have HSO := Lib.hid (fun X (hX : Below w6.heap.size w6 X) => sorted_any m (HS6.out.below hX) (by rw [HSL.out]; omega))
      have HSX : Hid (∀ X, Below w6.heap.size w6 X → (X.cell? ⟨q, 0, none⟩ = some (.int .u64 z.1) ∧ X.cell? ⟨q, 1, none⟩ = some (.int .i64 z.2))) := Lib.hid (fun X hX => ⟨(HX6.out.below hX HX6.out.lt).all.1, (HX6.out.below hX HX6.out.lt).all.2.1⟩)
      have HDK : Hid (decide (okK m s) = true) := Lib.hid (decide_eq_true HOK.out)
      have HB0 : Hid (Below w6.heap.size w6 w6) := Lib.hid (Below.refl _ _)
      have HBD : Hid (Below w6.heap.size w6 w6.drew) := Lib.hid (Below.refl _ _).drew
      go_upto_region 18 with fail
      go_cut [99] (fun c wx => c = .bool false ∧ Hid (Below w6.heap.size w6 wx))
      case first =>
        by_cases hp : 0 < L.length
        · have hfb : fb = true := by
            rw [← HFB.out]
            cases L with
            | nil => simp at hp
            | cons a t => rfl
          have hd1 : decide ((0 : Int) < (L.length : Int)) = true := decide_eq_true (by omega)
          have hd2 : decide (0 < L.length) = true := decide_eq_true hp
          rcases HS6.out.parts with ⟨hnil, -⟩ | ⟨-, b, off, cap', he, -, hb, hc⟩
          · have := HSL.out; rw [hnil] at this; simp at this; omega
          · rw [HSL.out] at he hc
            simp only [Value.slice.injEq] at he
            obtain ⟨rfl, -, rfl⟩ := he
            have c := hc 0 hp
            rw [Nat.zero_mul, Nat.add_zero, ← HFS.out hp, HZ.out] at c
            have HSY : Hid (∀ X, Below w6.heap.size w6 X → (X.cell? ⟨q, 0, none⟩ = some (.int .u64 z.1) ∧ X.cell? ⟨q, 1, none⟩ = some (.int .i64 z.2) ∧ X.cell? ⟨b, off, none⟩ = some (.int .u64 z.1) ∧ X.cell? ⟨b, off + 1, none⟩ = some (.int .i64 z.2))) := Lib.hid (fun X hX => ⟨(HSX.out X hX).1, (HSX.out X hX).2, (hX.cell (p := ⟨b, off, none⟩) hb).trans c.1, (hX.cell (p := ⟨b, off + 1, none⟩) hb).trans c.2⟩)
            obtain ⟨-, -, y0, y1⟩ := HSY.out w6 HB0.out
            have e1 : (z.1 == z.1) = true := by simp
            have e2 : (z.2 == z.2) = true := by simp
            subst hfb
            clear c hc hb
            go_region_held3 (fun X => X.cell? ⟨q, 0, none⟩ = some (.int .u64 z.1) ∧ X.cell? ⟨q, 1, none⟩ = some (.int .i64 z.2) ∧ X.cell? ⟨b, off, none⟩ = some (.int .u64 z.1) ∧ X.cell? ⟨b, off + 1, none⟩ = some (.int .i64 z.2))
              (first
                | exact HSY.out _ HB0.out
                | exact HSY.out _ HBD.out
                | exact HSY.out _ (bOn HBD.out hb7)
                | go_keep)
              (first
                | (go_at_call 14; refine (HSO.out _ ?_).mono ?_; exact HBD.out; rintro e' w7 ⟨rfl, hb7⟩; rw [HDK.out]))
            all_goals
              have H7 := Lib.hid (bOn HBD.out hb7)
              clear hb7
              go_wp2_with fail
              go_meet
              exact ⟨rfl, H7⟩
        · have hfb : fb = false := by
            rw [← HFB.out]
            cases L with
            | nil => rfl
            | cons a t => simp at hp
          have hd1 : decide ((0 : Int) < (L.length : Int)) = false := decide_eq_false (by omega)
          have hd2 : decide (0 < L.length) = false := decide_eq_false hp
          subst hfb
          have hl0 : L.length = 0 := by omega
          have hcs : ∀ n os, Calls Try.prog 14 #[.int .u64 m, .slice a3 L.length c3] (grow (w6.drewN n) os) fun e w' => e = .returned (.bool true) ∧ ∃ q' os', w' = grow ((grow (w6.drewN n) os).drewN q') os' := fun n os => by
            rw [hl0]; exact sorted_gr m a3 c3 _
          clear hl0
          refine wp_region_quiet_grown (by assumption) (by kernel_rfl) ?_
          repeat (first | go_big_quiet_step (first | (go_at_call 14; refine Calls.grown_of (hcs _ _))))
          refine wpQuiet_nil ?_
          intro _ hw'
          obtain ⟨⟨nq, osq⟩, hw''⟩ := hw'
          subst hw''
          have H7 : Hid (Below w6.heap.size w6 (grow (w6.drewN nq) osq)) := Lib.hid (Gr.below ⟨nq, osq, rfl⟩)
          clear hcs
          go_wp2_with fail
          go_meet
          exact ⟨rfl, H7⟩
      case rest =>
        obtain ⟨rfl, HC⟩ := hcut
        have HB7 := Lib.hid (bOn HB6.out HC.out)
        have HK7 := Lib.hid (HK6.out.below HC.out)
        have HS7 := Lib.hid (HS6.out.below HC.out)
        have HP7 := Lib.hid (HP6.out.below HC.out)
        have HKp := Lib.hid HK7.out.parts
        have HSp := Lib.hid HS7.out.parts
        have HPp := Lib.hid HP7.out.parts
        clear HC x0 x1
        go_wp2
        go_loopw [17] (fun i wr => ∃ k : Nat, k ≤ L.length ∧ i = .int .i64 k ∧ Hid (Gr wc wr)) (fun i _ => L.length - (intOf i).toNat)
        case atStart => exact ⟨0, by omega, rfl, Lib.hid (Gr.refl _)⟩
        case round =>
          obtain ⟨k, hk, rfl, HR⟩ := hrel
          by_cases hlt : k < L.length
          · rcases HSp.out with ⟨hnil, -⟩ | ⟨-, b, off, cap', he, -, hb, hc⟩
            · have := HSL.out; rw [hnil] at this; simp at this; omega
            · rcases HPp.out with ⟨hnil, -⟩ | ⟨-, b', off', cap2, he', -, hb', hc'⟩
              · have := HSL.out; rw [hnil] at this; simp at this; omega
              · rw [HSL.out] at he hc he' hc'
                simp only [Value.slice.injEq] at he he'
                obtain ⟨rfl, -, rfl⟩ := he
                obtain ⟨rfl, -, rfl⟩ := he'
                obtain ⟨y, hy⟩ : ∃ y, s.getD k (0, 0) = y := ⟨_, rfl⟩
                have c := hc k hlt
                have c' := hc' k hlt
                rw [hy] at c c'
                have p0 := HR.out.cell c.1
                have p1 := HR.out.cell c.2
                have q0 := HR.out.cell c'.1
                have q1 := HR.out.cell c'.2
                have e1 : (y.1 == y.1) = true := by simp
                have e2 : (y.2 == y.2) = true := by simp
                clear c c' hy hc hc' hb hb'
                go_wp2_with fail
                go_quiet (fail)
                go_wp2
                exact ⟨⟨k + 1, by omega, by go_num, Lib.hid (HR.out.trans (Gr.drew _ _))⟩, by simp [intOf]; omega⟩
          · obtain rfl : k = L.length := by omega
            have HB8 := Lib.hid (bOn HB7.out HR.out.below)
            have HK8 := Lib.hid (HK7.out.below HR.out.below)
            have HKp8 := Lib.hid HK8.out.parts
            have HP8 := Lib.hid (HP7.out.below HR.out.below)
            have HLK0 : Hid (∀ i, i < L.length → I (L.getD i (0, 0)).2) := Lib.hid (fun i hi => (HLK.out _ (by simp [List.getD, hi])).2)
            clear HR
            generalize wr = w8 at HB8 HK8 HKp8 HP8 ⊢
            go_wp2
            go_loopw [10, 18] (fun p i wr => ∃ k : Nat, k ≤ L.length ∧ i = .int .i64 k ∧ ∃ pl : List K, Hid (Keys wr p pl ∧ okK m pl ∧ pl.length + k = L.length ∧ (∀ j, k ≤ j → j < L.length → L.getD j (0, 0) ∈ pl) ∧ Below w8.heap.size w8 wr)) (fun _ i _ => L.length - (intOf i).toNat)
            case atStart =>
              refine ⟨0, by omega, rfl, s, Lib.hid ⟨HP8.out, HOK.out, by rw [HSL.out]; rfl, fun j _ hj => (HSM.out _).2 (by simp [List.getD, hj]), Below.refl _ _⟩⟩
            case round =>
              obtain ⟨k, hk, rfl, pl, HR⟩ := hrel
              by_cases hlt : k < L.length
              · rcases HKp8.out with ⟨hnil, -⟩ | ⟨-, b, off, cap', he, -, hb, hc⟩
                · rw [hnil] at hlt; exact absurd hlt (Nat.not_lt_zero _)
                · simp only [Value.slice.injEq] at he
                  obtain ⟨rfl, -, rfl⟩ := he
                  obtain ⟨y, hy⟩ : ∃ y, L.getD k (0, 0) = y := ⟨_, rfl⟩
                  have c := (hc k hlt).2
                  rw [hy] at c
                  have f1 := (HR.out.2.2.2.2.cell (p := ⟨b, off + k * 2 + 1, none⟩) hb).trans c
                  have hr := HR.out
                  have hmem : y ∈ pl := by rw [← hy]; exact hr.2.2.2.1 k (Nat.le_refl _) hlt
                  have HYI : Hid (I y.2) := Lib.hid (by rw [← hy]; exact HLK0.out k hlt)
                  have HDN := Lib.hid (drop_next hr.2.1 (id := y.2) (List.mem_map.2 ⟨y, hmem, rfl⟩))
                  have HRK := Lib.hid hr.1
                  have HRB := Lib.hid hr.2.2.2.2
                  have hpl : pl.length + k = L.length := hr.2.2.1
                  have HIN2 : Hid (∀ j, k + 1 ≤ j → j < L.length → L.getD j (0, 0) ∈ dropL m pl y.2) := Lib.hid (fun j h1 h2 => by
                    refine HDN.out.2.2.2.2 _ (hr.2.2.2.1 j (by omega) h2) (fun e => ?_)
                    have hne := List.pairwise_iff_getElem.1 (List.nodup_iff_pairwise_ne.1 HLN.out) k j (by simp [idsK]; omega) (by simp [idsK]; exact h2) (by omega)
                    simp only [idsK, List.getElem_map] at hne
                    rw [← hy] at e
                    simp [List.getD, h2, hlt] at e
                    exact hne e.symm)
                  obtain ⟨a9, c9, hu9, -⟩ := hr.1
                  subst hu9
                  clear c hy hc hb hr hmem HR
                  go_wp2_with fail
                  refine (drop_any m y.2 HYI.out HRK.out (by omega)).mono ?_
                  rintro e' w9 ⟨⟨v9, rfl, hK9⟩, hb9⟩
                  rw [HDN.out.1]
                  have HK9 := Lib.hid hK9
                  have HB9 := Lib.hid (bOn HRB.out hb9)
                  obtain ⟨ax, cx, hux, -⟩ := hK9
                  have hdl : (dropL m pl y.2).length = pl.length - 1 := HDN.out.2.1
                  rw [hdl] at hux
                  subst hux
                  obtain ⟨pn, hpn⟩ : ∃ pn, pl.length = pn + 1 := ⟨pl.length - 1, by omega⟩
                  have HPN := Lib.hid hpn
                  have hnn2 : (((pn : Nat) : Int) != ((pn : Nat) : Int)) = false := by simp
                  have hpb : pn ≤ 1000 := by omega
                  clear hb9 hpn hdl
                  rw [HPN.out, Nat.add_sub_cancel]
                  go_wp2
                  refine ⟨⟨k + 1, by omega, by go_num, dropL m pl y.2, Lib.hid ⟨?_, HDN.out.2.2.1, by rw [HDN.out.2.1]; have := HPN.out; omega, HIN2.out, HB9.out⟩⟩, by simp [intOf]; omega⟩
                  have h9 := HK9.out
                  rw [HPN.out, Nat.add_sub_cancel] at h9
                  exact h9
              · obtain rfl : k = L.length := by omega
                have HF := Lib.hid (bOn HB8.out HR.out.2.2.2.2)
                go_wp2
                go_ret
                exact ⟨rfl, HF.out⟩

set_option maxRecDepth 100000 in
theorem lifted (os : Os) (started : os.Started) (H : Type) (enc : TypeId × Value → H) :
    ReturnsInHanded {} Try.checked os 6 .any (Rows.keyMadeSpec.pre6 enc Try.prog Try.f6 Rows.keyMadeRow.domain false) (Rows.keyMadeSpec.post enc Try.prog Try.f6 false true false false) := by
  refine returnsInHanded_of_change (C := Try.checked) own started (by kernel_rfl) Try.func6
    (ChangeSpec.witness6 (enc := enc) (C := Try.checked) false ⟨#[], #[.int .u64 0, .slice none 0 0, .bool false], []⟩ 8 (by kernel_rfl) (by kernel_rfl) (by kernel_rfl) (by kernel_rfl)) ?_
  intro W base args ds gs before hval0 hW _ _
  have hval : ∀ (j : Nat) t v, Try.f6.params[j]? = some t → args[j]? = some v → Value.okWide Try.prog W .any base t v := hval0
  have hW' := hW
  obtain ⟨p, q, hA0, hV, rfl, -, -⟩ := hW
  have hA : DataW.TrodAll enc Try.prog W 0 (fun _ => true) true Try.f6.params.toList args.toList ds p := hA0
  rw [Try.params6] at hA hval
  obtain ⟨v0, vs0, d0, ds0, p0, q0, hargs, rfl, rfl, h0, r0⟩ := trodAll_cons hA
  obtain ⟨v1, vs1, d1, ds1, p1, q1, rfl, rfl, rfl, h1, r1⟩ := trodAll_cons r0
  obtain ⟨v2, vs2, d2, ds2, p2, q2, rfl, rfl, rfl, h2, r2⟩ := trodAll_cons r1
  obtain ⟨rfl, rfl, rfl⟩ := trodAll_nil r2
  obtain rfl : args = #[v0, v1, v2] := by cases args; simp_all
  obtain ⟨rfl, rfl⟩ := trodVars_none hV
  obtain ⟨a0, rfl, rfl, rfl, w0⟩ := open_int Try.underlying22 (hval 0 22 v0 rfl rfl) h0
  obtain ⟨a1, w1⟩ := ints_arg Try.underlying41 Try.underlying45 (by kernel_rfl) (hval 1 41 v1 rfl rfl) h1
  obtain ⟨a2, rfl, rfl, rfl⟩ := open_bool Try.underlying4 (hval 2 4 v2 rfl rfl) h2
  clear hA0 hval0
  refine (walk a0 v1 a1 a2 W w0 w1).mono fun e W' ⟨he, hb⟩ => ?_
  subst he
  exact ⟨_, rfl, post_law laidOut (by kernel_rfl) rfl (by kernel_rfl) Try.underlying4 hW' rfl hb⟩

/-- **KeyMade**: the given statement. -/
theorem proved : Rows.KeyMadeSaid :=
  OpenClaim.holds_of_wide 6 Try.f6 rfl rfl rfl rfl rfl rfl rfl ⟨rfl, rfl, rfl, rfl, rfl⟩ rfl rfl rfl rfl rfl (by kernel_rfl) Try.func6 (by kernel_rfl)
    (of_decide_eq_true (by kernel_rfl)) (by unfold Func.isWrapper; first | (rw [if_pos (by decide +kernel)]; kernel_rfl) | (rw [if_neg (by decide +kernel)]; exact ⟨rfl, rfl⟩))
    (fun os started H enc _ => lifted os started H enc)
end Go.Proofs.Ytdmkaclihopmkaa.keyMade
