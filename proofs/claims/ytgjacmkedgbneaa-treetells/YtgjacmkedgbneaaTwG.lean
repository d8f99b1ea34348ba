/-
  Contract of a work's fill, over what filling makes of a tree.
-/
import Derived.Test.YtgjacmkedgbneaaTwE
import Derived.Test.YtgjacmkedgbneaaTwF
namespace Go.Proofs.Ytgjacmkedgbneaa
open Go.RowKit Go.Sort Wd Tn Ky Tr

theorem Pb.gr {p : Wp} {w w' : World} {q : Nat} {u : Int} {s : Bool} (h : Pb p w q u s) (hg : Gr w w') : Pb p w' q u s := h.ws (Ws.of_gr hg)

set_option maxHeartbeats 4000000 in
set_option maxRecDepth 100000 in
theorem fill_at {p : Wp} {n : Nat} {w : World} {t t' : T} {u : Int} {s : Bool} (h : Wk p w t) (hf : Fill n t u s t') :
    Calls Try.prog 73 #[.pointer (some ⟨p.b, 0, none⟩), .agg #[.int .i64 u, .int .i64 (sI s)]] w fun e w' => e = .returned (.tuple #[]) ∧ Wk p w' t' ∧ Ws p w w' := by
  have mixed : Try.prog.follows .mixedOrders = true := by kernel_rfl
  have H0 := Lib.hid hf
  have cap2 := h.cap2
  have HP0 := Lib.hid (Pb.new h u s)
  have HW0 := Lib.hid (h.alloc (.cells #[.int .i64 u, .int .i64 (sI s)] 91))
  have HS0 := Lib.hid ((Ws.refl p w).alloc (.cells #[.int .i64 u, .int .i64 (sI s)] 91))
  clear h hf
  go_enter Try.func73, Try.ntmps73
  go_wp2_with fail
  generalize hq : w.heap.size = q at HP0 ⊢
  generalize w.alloc (.cells #[.int .i64 u, .int .i64 (sI s)] 91) = w0 at HP0 HW0 HS0 ⊢
  have HQ := Lib.hid hq
  clear hq
  go_loopg [4] n (fun kk _ wr => ∃ (t1 : T) (u1 : Int) (s1 : Bool), Hid (Wk p wr t1 ∧ Ws p w wr ∧ Pb p wr q u1 s1 ∧ Fill kk t1 u1 s1 t'))
  case atStart => exact ⟨t, u, s, Lib.hid ⟨HW0.out, HS0.out, HP0.out, H0.out⟩⟩
  case round =>
    obtain ⟨t1, u1, s1, HR⟩ := hrel
    obtain ⟨hw, hs, hpb, hf⟩ := HR.out
    clear HW0 HS0 HP0 H0 HR
    have HW := Lib.hid hw
    have HS := Lib.hid hs
    have HP := Lib.hid hpb
    obtain ⟨pc0, pc1, -, -⟩ := hpb.cells
    have fp0 : ∀ n os, (grow (wr.drewN n) os).cell? ⟨q, 0, none⟩ = some (.int .i64 u1) := fun n os => (HP.out.gr ⟨n, os, rfl⟩).cells.1
    have fp1 : ∀ n os, (grow (wr.drewN n) os).cell? ⟨q, 1, none⟩ = some (.int .i64 (sI s1)) := fun n os => (HP.out.gr ⟨n, os, rfl⟩).cells.2.1
    rcases hf.parts with ⟨rfl, h0, ht'⟩ | ⟨hu, hy, ry, ht'⟩ | ⟨hu, hk, rk, hv, hway⟩
    · have HT' := Lib.hid ht'
      have H0 := Lib.hid h0
      have HAT := Lib.hid (fun X (hX : Wk p X t1) => at_at hX (u := -1) (.inl rfl) s1)
      change Hid (∀ X, Wk p X t1 → Calls Try.prog _ _ _ (fun e w' => e = .returned (.int .i64 t1.root) ∧ _)) at HAT
      clear hw hs hpb hf ht' h0 fp0 fp1
      go_wp2_with fail
      go_quiet (fail)
      have HW1 := Lib.hid (HW.out.gr (Gr.drew _ nq))
      have HS1 := Lib.hid (HS.out.trans (Ws.of_gr (Gr.drew _ nq)))
      have HP1 := Lib.hid (HP.out.gr (Gr.drew _ nq))
      clear HW HS HP pc0 pc1
      generalize wr.drewN nq = w1 at HW1 HS1 HP1 ⊢
      obtain ⟨pc0, pc1, -, -⟩ := HP1.out.cells
      go_wp2_with fail
      refine (HAT.out _ HW1.out).mono ?_
      rintro e' w2 ⟨rfl, hg2⟩
      have HW2 := Lib.hid (HW1.out.gr hg2)
      have HS2 := Lib.hid (HS1.out.trans (Ws.of_gr hg2))
      clear hg2 HW1 HS1 HP1 HAT pc0 pc1
      by_cases hr : t1.root = -1
      · have HE : Hid (t' = t1) := Lib.hid (by rw [HT'.out, if_pos hr])
        rw [hr]
        clear hr
        go_wp2
        go_end0
        exact ⟨rfl, by rw [HE.out]; exact HW2.out, HS2.out⟩
      · have HE : Hid (t' = t1.paint t1.root false) := Lib.hid (by rw [HT'.out, if_neg hr])
        obtain ⟨k, hk0, hk⟩ := has_nat (H0.out.resolve_left hr)
        have HK := Lib.hid hk0
        rw [hk0]
        have hsl := HW2.out.slc
        have cap1 := HW2.out.cap1
        have c1 := HW2.out.redc hk
        have f1 := HW2.out.frozen (k * 6 + 1)
        have hnk : ((k : Int) == -1) = false := by rw [beq_eq_false_iff_ne]; omega
        generalize (t1.nd k).red = r1 at c1
        have HF := Lib.hid (HW2.out.paint hk false)
        have HSF := Lib.hid (HS2.out.set (q := ⟨p.nb, k * 6 + 1, none⟩) (.inr (.inl rfl)) (.bool false))
        clear hr hk0
        go_wp2
        go_end0
        exact ⟨rfl, by rw [HE.out, HK.out]; exact HF.out, HSF.out⟩
    · have hne : (u1 == -1) = false := by rw [beq_eq_false_iff_ne]; exact has_ne hu
      have hne2 : ¬ u1 = -1 := has_ne hu
      have EA : Hid (t1.at u1 s1 = t1.kid u1 s1) := Lib.hid (by unfold T.at; rw [if_neg hne2])
      have hcg1 : ∀ n os, Calls Try.prog 63 #[.pointer (some ⟨p.b, 0, none⟩), .agg #[.int .i64 u1, .int .i64 (sI s1)]] (grow (wr.drewN n) os) fun e w' => e = .returned (.int .i64 (t1.kid u1 s1)) ∧ ∃ q' os', w' = grow ((grow (wr.drewN n) os).drewN q') os' := fun n os => by
        rw [← EA.out]; exact at_at (hw.gr ⟨n, os, rfl⟩) (.inr hu) s1
      have hcg2 : ∀ n os, Calls Try.prog 57 #[.pointer (some ⟨p.b, 0, none⟩), .int .i64 (t1.kid u1 s1)] (grow (wr.drewN n) os) fun e w' => e = .returned (.bool true) ∧ ∃ q' os', w' = grow ((grow (wr.drewN n) os).drewN q') os' := fun n os => by
        rw [← ry]; exact (red_at (hw.gr ⟨n, os, rfl⟩).tp (.inr hy)).mono fun _ _ h => ⟨h.1, 0, #[], by rw [grow_empty]; exact h.2.symm⟩
      have HT' := Lib.hid ht'
      have HU := Lib.hid hu
      obtain ⟨k, hk0, hk⟩ := has_nat hy
      have HK := Lib.hid hk0
      rw [hk0] at hcg1 hcg2
      clear hw hs hpb hf ht' hu hy ry hk0
      go_wp2_with fail
      go_quiet_grown (first | (go_at_call 63; refine Calls.grown_of (hcg1 _ _)) | (go_at_call 57; refine Calls.grown_of (hcg2 _ _)))
      have HW1 := Lib.hid (HW.out.gr ⟨nq, osq, rfl⟩)
      have HS1 := Lib.hid (HS.out.trans (Ws.of_gr ⟨nq, osq, rfl⟩))
      have HP1 := Lib.hid (HP.out.gr ⟨nq, osq, rfl⟩)
      clear HW HS HP pc0 pc1 fp0 fp1 hcg1 hcg2
      generalize grow (wr.drewN nq) osq = w1 at HW1 HS1 HP1 ⊢
      obtain ⟨pc0, pc1, -, -⟩ := HP1.out.cells
      have HAT := Lib.hid (at_at HW1.out (.inr HU.out) s1)
      rw [EA.out, HK.out] at HAT
      go_wp2_with fail
      refine HAT.out.mono ?_
      rintro e' w2 ⟨rfl, hg2⟩
      have HW2 := Lib.hid (HW1.out.gr hg2)
      have HS2 := Lib.hid (HS1.out.trans (Ws.of_gr hg2))
      clear hg2 HW1 HS1 HP1 HAT pc0 pc1
      have hsl := HW2.out.slc
      have cap1 := HW2.out.cap1
      have c1 := HW2.out.redc hk
      have f1 := HW2.out.frozen (k * 6 + 1)
      have hnk : ((k : Int) == -1) = false := by rw [beq_eq_false_iff_ne]; omega
      generalize (t1.nd k).red = r1 at c1
      have HF := Lib.hid (HW2.out.paint hk false)
      have HSF := Lib.hid (HS2.out.set (q := ⟨p.nb, k * 6 + 1, none⟩) (.inr (.inl rfl)) (.bool false))
      go_wp2
      go_end0
      exact ⟨rfl, by rw [HT'.out, HK.out]; exact HF.out, HSF.out⟩
    · have hne : (u1 == -1) = false := by rw [beq_eq_false_iff_ne]; exact has_ne hu
      have hne2 : ¬ u1 = -1 := has_ne hu
      have EA : Hid (t1.at u1 s1 = t1.kid u1 s1) := Lib.hid (by unfold T.at; rw [if_neg hne2])
      have hcg1 : ∀ n os, Calls Try.prog 63 #[.pointer (some ⟨p.b, 0, none⟩), .agg #[.int .i64 u1, .int .i64 (sI s1)]] (grow (wr.drewN n) os) fun e w' => e = .returned (.int .i64 (t1.kid u1 s1)) ∧ ∃ q' os', w' = grow ((grow (wr.drewN n) os).drewN q') os' := fun n os => by
        rw [← EA.out]; exact at_at (hw.gr ⟨n, os, rfl⟩) (.inr hu) s1
      have hcg2 : ∀ n os, Calls Try.prog 57 #[.pointer (some ⟨p.b, 0, none⟩), .int .i64 (t1.kid u1 s1)] (grow (wr.drewN n) os) fun e w' => e = .returned (.bool false) ∧ ∃ q' os', w' = grow ((grow (wr.drewN n) os).drewN q') os' := fun n os => by
        rw [← rk]; exact (red_at (hw.gr ⟨n, os, rfl⟩).tp hk).mono fun _ _ h => ⟨h.1, 0, #[], by rw [grow_empty]; exact h.2.symm⟩
      have HU := Lib.hid hu
      have HV := Lib.hid hv
      have HWAY := Lib.hid hway
      generalize t1.kid u1 s1 = y at hcg1 hcg2
      clear hw hs hpb hf hu hk rk hv hway
      go_wp2_with fail
      go_quiet_grown (first | (go_at_call 63; refine Calls.grown_of (hcg1 _ _)) | (go_at_call 57; refine Calls.grown_of (hcg2 _ _)))
      have HW1 := Lib.hid (HW.out.gr ⟨nq, osq, rfl⟩)
      have HS1 := Lib.hid (HS.out.trans (Ws.of_gr ⟨nq, osq, rfl⟩))
      have HP1 := Lib.hid (HP.out.gr ⟨nq, osq, rfl⟩)
      clear HW HS HP pc0 pc1 fp0 fp1 hcg1 hcg2
      generalize grow (wr.drewN nq) osq = w1 at HW1 HS1 HP1 ⊢
      obtain ⟨pc0, pc1, -, -⟩ := HP1.out.cells
      have HO : Hid (∀ n, Calls Try.prog 78 #[.int .i64 (sI s1)] (w1.drewN n) fun e w' => e = .returned (.int .i64 (sI (!s1))) ∧ w' = w1.drewN n) := Lib.hid (fun n => (other_at s1 _).mono fun _ _ h => ⟨h.1, h.2.symm⟩)
      go_wp2_with fail
      go_quiet (first | (go_at_call 78; refine Calls.quiet_of_same (HO.out _)))
      have HW2 := Lib.hid (HW1.out.gr (Gr.drew _ nq))
      have HS2 := Lib.hid (HS1.out.trans (Ws.of_gr (Gr.drew _ nq)))
      have HP2 := Lib.hid (HP1.out.gr (Gr.drew _ nq))
      clear HW1 HS1 HP1 pc0 pc1 HO
      generalize w1.drewN nq = w2 at HW2 HS2 HP2 ⊢
      have HC1 := Lib.hid (child_at HW2.out HU.out (!s1))
      have HR1 := Lib.hid (red_at HW2.out.tp (.inr HV.out))
      obtain ⟨v, hv0⟩ : ∃ v, t1.kid u1 (!s1) = v := ⟨_, rfl⟩
      have EV := Lib.hid hv0
      rw [hv0] at HC1 HR1 HV HWAY
      obtain ⟨rv, hrv⟩ : ∃ r, t1.redB v = r := ⟨_, rfl⟩
      rw [hrv] at HR1 HWAY
      clear hv0 hrv
      go_wp2_with fail
      refine (HC1.out).mono ?_
      rintro e' w' ⟨rfl, rfl⟩
      go_wp2_with fail
      refine (HR1.out).mono ?_
      rintro e' w' ⟨rfl, rfl⟩
      clear HC1 HR1
      go_upto_if 37 with fail
      go_cut [7] (fun v7 wc => ∃ (t2 : T) (v1 : Int) (m : Nat), v7 = .int .i64 v1 ∧ Hid (Wk p wc t2 ∧ Ws p w wc ∧ Pb p wc q u1 s1 ∧ m ≤ gk ∧ FillV m t2 u1 v1 s1 t'))
      case first =>
        rcases HWAY.out with ⟨hr, ht, m, hm, hfv⟩ | ⟨hr, hfv⟩
        · subst hr
          obtain ⟨kv, rfl, hkv⟩ := has_nat HV.out
          obtain ⟨ku, rfl, hku⟩ := has_nat HU.out
          have HT := Lib.hid ht
          have HFV := Lib.hid (And.intro hm hfv)
          have hsl := HW2.out.slc
          have cap1 := HW2.out.cap1
          have c1 := HW2.out.redc hkv
          have f1 := HW2.out.frozen (kv * 6 + 1)
          have hk2 : ku < (t1.paint kv false).ns.length := by rw [paint_len]; exact hku
          have h2 := HW2.out.paint hkv false
          have c2 := h2.redc hk2
          have f2 := h2.frozen (ku * 6 + 1)
          have h3 := h2.paint hk2 true
          have HF3 := Lib.hid h3.drew
          have HSX := Lib.hid (((Ws.refl p w2).set (q := ⟨p.nb, kv * 6 + 1, none⟩) (.inr (.inl rfl)) (.bool false)).set (q := ⟨p.nb, ku * 6 + 1, none⟩) (.inr (.inl rfl)) (.bool true)).drew
          generalize (t1.nd kv).red = r1 at c1
          generalize ((t1.paint kv false).nd ku).red = r2 at c2
          have HL : Hid (((t1.paint kv false).paint ku true).ns.length = t1.ns.length) := Lib.hid (by rw [paint_len, paint_len])
          clear hm hfv ht h2 h3 hk2
          go_wp2_with fail
          go_region
          generalize ((w2.setCell ⟨p.nb, kv * 6 + 1, none⟩ (.bool false)).setCell ⟨p.nb, ku * 6 + 1, none⟩ (.bool true)).drew = w5 at HF3 HSX ⊢
          clear hsl c1 f1 c2 f2 HW2
          have HTU := Lib.hid (turn_ok HF3.out HT.out)
          go_wp2_with fail
          refine HTU.out.mono ?_
          rintro e' w6 ⟨rfl, hw6, hs6⟩
          have HW6 := Lib.hid hw6
          have HS6 := Lib.hid (HS2.out.trans (HSX.out.trans hs6))
          have HP6 := Lib.hid (HP2.out.ws (HSX.out.trans hs6))
          have HC6 := Lib.hid (child_at hw6 ((has_len (by rw [turn_len, HL.out])).2 HU.out) (!s1))
          clear HTU hw6 hs6 HF3 HSX
          go_wp2_with fail
          refine (HC6.out).mono ?_
          rintro e' w' ⟨rfl, rfl⟩
          go_wp2_with fail
          go_meet
          case rel => exact ⟨_, _, m, rfl, Lib.hid ⟨HW6.out, HS6.out, HP6.out, Nat.le_of_lt HFV.out.1, HFV.out.2⟩⟩
        · subst hr
          have HFV := Lib.hid hfv
          clear hfv
          go_wp2_with fail
          go_meet
          case rel => exact ⟨t1, v, gk, rfl, Lib.hid ⟨HW2.out, HS2.out, HP2.out, Nat.le_refl _, HFV.out⟩⟩
      case rest =>
        obtain ⟨t2, v1, m, rfl, HR⟩ := hcut
        obtain ⟨hw, hs, hpb, hmk, hu, ev, hv, ol, or, hway⟩ := HR.out
        have HB : Hid (∀ n (b : Bool), Calls Try.prog 71 #[.pointer (some ⟨p.b, 0, none⟩), .int .i64 v1, .int .i64 (sI b)] (wc.drewN n) fun e w' => e = .returned (.int .i64 (t2.kid v1 b)) ∧ w' = wc.drewN n) := Lib.hid (fun n b => (child_at (hw.gr (Gr.drew _ n)) hv b).mono fun _ _ h => ⟨h.1, h.2.symm⟩)
        have HL : Hid (∀ n, Calls Try.prog 57 #[.pointer (some ⟨p.b, 0, none⟩), .int .i64 (t2.kid v1 false)] (wc.drewN n) fun e w' => e = .returned (.bool (t2.redB (t2.kid v1 false))) ∧ w' = wc.drewN n) := Lib.hid (fun n => (red_at (hw.gr (Gr.drew _ n)).tp ol).mono fun _ _ h => ⟨h.1, h.2.symm⟩)
        have HRR : Hid (∀ n, Calls Try.prog 57 #[.pointer (some ⟨p.b, 0, none⟩), .int .i64 (t2.kid v1 true)] (wc.drewN n) fun e w' => e = .returned (.bool (t2.redB (t2.kid v1 true))) ∧ w' = wc.drewN n) := Lib.hid (fun n => (red_at (hw.gr (Gr.drew _ n)).tp or).mono fun _ _ h => ⟨h.1, h.2.symm⟩)
        have HBL := Lib.hid (fun n => HB.out n false)
        have HBR := Lib.hid (fun n => HB.out n true)
        rw [show sI false = 0 from rfl] at HBL
        rw [show sI true = 1 from rfl] at HBR
        have HW3 := Lib.hid hw
        have HS3 := Lib.hid hs
        have HP3 := Lib.hid hpb
        have HU3 := Lib.hid hu
        have HV3 := Lib.hid hv
        have HMK := Lib.hid hmk
        have HWAY2 := Lib.hid hway
        clear HR hw hs hpb hmk hu ev hv ol or hway HB HW2 HS2 HP2 HWAY EV HU HV
        generalize t2.kid v1 false = yl at HBL HL HWAY2
        generalize t2.kid v1 true = yr at HBR HRR HWAY2
        generalize t2.redB yl = rl at HL HWAY2
        generalize t2.redB yr = rr at HRR HWAY2
        generalize wc = w3 at HBL HBR HL HRR HW3 HS3 HP3 ⊢
        go_upto_region 8 with fail
        go_cut [77] (fun c wx => c = .bool (rl || rr) ∧ Hid (Wk p wx t2 ∧ Ws p w wx ∧ Pb p wx q u1 s1))
        case first =>
          cases rl with
          | true =>
            go_quiet (first | (go_at_call 71; refine Calls.quiet_of_same (HBL.out _)) | (go_at_call 57; refine Calls.quiet_of_same (HL.out _)))
            go_wp2_with fail
            go_meet
            case rel => exact ⟨rfl, Lib.hid ⟨HW3.out.gr (Gr.drew _ nq), HS3.out.trans (Ws.of_gr (Gr.drew _ nq)), HP3.out.gr (Gr.drew _ nq)⟩⟩
          | false =>
            go_quiet (first | (go_at_call 71; first | (with_reducible refine Calls.quiet_of_same (HBL.out _)) | (with_reducible refine Calls.quiet_of_same (HBR.out _))) | (go_at_call 57; first | (with_reducible refine Calls.quiet_of_same (HL.out _)) | (with_reducible refine Calls.quiet_of_same (HRR.out _))))
            go_wp2_with fail
            go_meet
            case rel => exact ⟨rfl, Lib.hid ⟨HW3.out.gr (Gr.drew _ nq), HS3.out.trans (Ws.of_gr (Gr.drew _ nq)), HP3.out.gr (Gr.drew _ nq)⟩⟩
        case rest =>
          obtain ⟨rfl, HR⟩ := hcut
          clear HBL HBR HL HRR HW3 HS3 HP3
          have HW4 := Lib.hid HR.out.1
          have HS4 := Lib.hid HR.out.2.1
          have HP4 := Lib.hid HR.out.2.2
          clear HR
          generalize wc = w4 at HW4 HS4 HP4 ⊢
          rcases HWAY2.out with ⟨hr, hst⟩ | ⟨hr, hm0, hok, hrest⟩
          · have HST := Lib.hid (settle_at HW4.out hst)
            rw [hr]
            clear hr hst HWAY2
            go_wp2_with fail
            refine HST.out.mono ?_
            rintro e' w5 ⟨rfl, hw5, hs5⟩
            have HF := Lib.hid (And.intro hw5 (HS4.out.trans hs5))
            clear HST hw5 hs5
            go_wp2
            refine bodyPost_ret (results_none rfl _ _ _) rfl ?_
            exact ⟨rfl, HF.out.1, HF.out.2⟩
          · obtain ⟨kv, rfl, hkv⟩ := has_nat HV3.out
            have HN := Lib.hid (And.intro hm0 (And.intro hok hrest))
            have hsl := HW4.out.slc
            have cap1 := HW4.out.cap1
            have c1 := HW4.out.redc hkv
            have f1 := HW4.out.frozen (kv * 6 + 1)
            generalize (t2.nd kv).red = r1 at c1
            have HW5 := Lib.hid (HW4.out.paint hkv true)
            have HSX := Lib.hid ((Ws.refl p w4).set (q := ⟨p.nb, kv * 6 + 1, none⟩) (.inr (.inl rfl)) (.bool true))
            have HU5 : Hid ((t2.paint kv true).has u1) := Lib.hid ((has_len (paint_len _ _ _)).2 HU3.out)
            have HPL := Lib.hid (place_at HW5.out HU5.out hok)
            rw [hr]
            clear hr hm0 hok hrest HWAY2
            go_wp2_with fail
            have HP5 := Lib.hid (HP4.out.ws HSX.out)
            have HS5 := Lib.hid (HS4.out.trans HSX.out)
            generalize w4.setCell ⟨p.nb, kv * 6 + 1, none⟩ (.bool true) = w5 at HW5 HP5 HS5 HPL ⊢
            clear hsl cap1 c1 f1 HW4 HSX HP4 HS4
            refine HPL.out.mono ?_
            rintro e' w6 ⟨rfl, hg6⟩
            have HW6 := Lib.hid (HW5.out.gr hg6)
            have HS6 := Lib.hid (HS5.out.trans (Ws.of_gr hg6))
            have HP6 := Lib.hid (HP5.out.gr hg6)
            clear hg6 HW5 HS5 HP5 HPL
            obtain ⟨t3, ht3⟩ : ∃ t3, t2.paint kv true = t3 := ⟨_, rfl⟩
            rw [ht3] at HW6 HN ⊢
            clear ht3 HU5
            generalize t3.up u1 = u2 at HN ⊢
            generalize t3.side u1 = s2 at HN ⊢
            obtain ⟨pc0, pc1, pf0, pf1⟩ := HP6.out.cells
            have HP7 := Lib.hid (HP6.out.store u2 s2)
            have HW7 := Lib.hid ((HW6.out.other (q := ⟨q, 0, none⟩) (v := .int .i64 u2) (fun e => HP6.out.2.1 e.symm) (fun e => HP6.out.2.2 e.symm)).other (q := ⟨q, 1, none⟩) (v := .int .i64 (sI s2)) (fun e => HP6.out.2.1 e.symm) (fun e => HP6.out.2.2 e.symm))
            have HS7 := Lib.hid ((HS6.out.set (q := ⟨q, 0, none⟩) (.inr (.inr (by have := HQ.out; show w.heap.size ≤ q; omega))) (.int .i64 u2)).set (q := ⟨q, 1, none⟩) (.inr (.inr (by have := HQ.out; show w.heap.size ≤ q; omega))) (.int .i64 (sI s2)))
            go_wp2
            go_roundg (m - 1)
            case measure => have := HN.out.1; have := HMK.out; omega
            case rel => exact ⟨_, _, _, Lib.hid ⟨HW7.out, HS7.out, HP7.out, HN.out.2.2⟩⟩
end Go.Proofs.Ytgjacmkedgbneaa
