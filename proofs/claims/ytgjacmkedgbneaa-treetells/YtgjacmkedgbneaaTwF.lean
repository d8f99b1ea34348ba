/-
  Contract of a work's settle.
-/
import Derived.Test.YtgjacmkedgbneaaTwD
import Derived.Test.YtgjacmkedgbneaaPlA
import Derived.Deep.DeepCutAuto
namespace Go.Proofs.Ytgjacmkedgbneaa
open Go.RowKit Go.Sort Wd Tn Ky Tr

set_option maxHeartbeats 2000000 in
set_option maxRecDepth 100000 in
theorem settle_at {p : Wp} {w : World} {t t' : T} {x : Int} {s : Bool} (h : Wk p w t) (hst : Settle t x s t') :
    Calls Try.prog 80 #[.pointer (some ⟨p.b, 0, none⟩), .int .i64 x, .int .i64 (sI s)] w fun e w' => e = .returned (.tuple #[]) ∧ Wk p w' t' ∧ Ws p w w' := by
  obtain ⟨v, f, hx, ev, hv, ef, hf, hway⟩ := hst
  have HW := Lib.hid h
  have HX := Lib.hid hx
  have EV := Lib.hid ev
  have HV := Lib.hid hv
  have EF := Lib.hid ef
  have HF := Lib.hid hf
  have HWAY := Lib.hid hway
  have HC1 := Lib.hid (child_at h hx (!s))
  rw [ev] at HC1
  have cap2 := h.cap2
  have hbb : ∀ n : Nat, Calls Try.prog 71 #[.pointer (some ⟨p.b, 0, none⟩), .int .i64 v, .int .i64 (sI (!s))] (w.drewN n) fun e w' => e = .returned (.int .i64 f) ∧ w' = w.drewN n := fun n => by
    rw [← ef]
    exact (child_at (h.gr (Gr.drew _ n)) hv (!s)).mono fun _ _ h => ⟨h.1, h.2.symm⟩
  obtain ⟨rf, hrf⟩ : ∃ rf, t.redB f = rf := ⟨_, rfl⟩
  have hrr : ∀ n : Nat, Calls Try.prog 57 #[.pointer (some ⟨p.b, 0, none⟩), .int .i64 f] (w.drewN n) fun e w' => e = .returned (.bool rf) ∧ w' = w.drewN n := fun n => by
    rw [← hrf]
    exact (red_at (h.gr (Gr.drew _ n)).tp hf).mono fun _ _ h => ⟨h.1, h.2.symm⟩
  have HBB := Lib.hid hbb
  have HRR := Lib.hid hrr
  have HRF := Lib.hid hrf
  clear h hx ev hv ef hf hway hbb hrr hrf
  go_enter Try.func80, Try.ntmps80
  go_wp2_with fail
  refine (other_at s _).mono ?_
  rintro e' w' ⟨rfl, rfl⟩
  go_wp2_with fail
  refine (HC1.out).mono ?_
  rintro e' w' ⟨rfl, rfl⟩
  go_wp2_with fail
  go_quiet (first | (go_at_call 71; refine Calls.quiet_of_same (HBB.out _)) | (go_at_call 57; refine Calls.quiet_of_same (HRR.out _)))
  have HW1 := Lib.hid (HW.out.gr (Gr.drew _ nq))
  have HS1 := Lib.hid (Ws.of_gr (p := p) (Gr.drew w nq))
  clear HBB HRR HC1 HW
  generalize w.drewN nq = w1 at HW1 HS1 ⊢
  go_upto_if 22 with fail
  go_cut [7] (fun v7 wc => ∃ (t1 : T) (v1 : Int), v7 = .int .i64 v1 ∧ Hid (Wk p wc t1 ∧ Ws p w wc ∧ t1.kid x (!s) = v1 ∧ SetFar t1 x s t'))
  case first =>
    rcases HWAY.out with ⟨hr, hsf⟩ | ⟨hr, c, ec, hc, ht, hsf⟩
    · obtain rfl : rf = true := HRF.out.symm.trans hr
      have HSF := Lib.hid hsf
      clear hr hsf
      go_wp2_with fail
      go_meet
      case rel => exact ⟨t, v, rfl, Lib.hid ⟨HW1.out, HS1.out, EV.out, HSF.out⟩⟩
    · obtain rfl : rf = false := HRF.out.symm.trans hr
      obtain ⟨kv, rfl, hkv⟩ := has_nat HV.out
      obtain ⟨kc, rfl, hkc⟩ := has_nat hc
      have HSF := Lib.hid hsf
      have HT := Lib.hid ht
      have HC := Lib.hid (child_at HW1.out.drew HV.out s)
      rw [ec] at HC
      have hsl := HW1.out.slc
      have cap1 := HW1.out.cap1
      have c1 := HW1.out.redc hkc
      have f1 := HW1.out.frozen (kc * 6 + 1)
      have hk2 : kv < (t.paint kc false).ns.length := by rw [paint_len]; exact hkv
      have h2 := HW1.out.paint hkc false
      have c2 := h2.redc hk2
      have f2 := h2.frozen (kv * 6 + 1)
      have s2 := h2.slc
      have h3 := h2.paint hk2 true
      have s3 := h3.slc
      rw [paint_len] at s2 s3
      rw [paint_len] at s3
      have HF3 := Lib.hid h3.drew
      have HS3 := Lib.hid ((HS1.out.set (q := ⟨p.nb, kc * 6 + 1, none⟩) (.inr (.inl rfl)) (.bool false)).set (q := ⟨p.nb, kv * 6 + 1, none⟩) (.inr (.inl rfl)) (.bool true)).drew
      generalize (t.nd kc).red = r1 at c1
      generalize ((t.paint kc false).nd kv).red = r2 at c2
      have HL : Hid (((t.paint kc false).paint kv true).ns.length = t.ns.length) := Lib.hid (by rw [paint_len, paint_len])
      clear hr hsf hc ec ht h2 h3 hk2
      go_wp2_with fail
      go_region_held3 (fun X => X.cell? ⟨p.b, 1, none⟩ = some (.slice (some ⟨p.nb, 0, none⟩) t.ns.length p.cap))
        (first | exact hsl | exact s2 | exact s3 | go_keep)
        (first | (go_at_call 71; refine HC.out.mono ?_; rintro e' w' ⟨rfl, rfl⟩))
      generalize ((w1.setCell ⟨p.nb, kc * 6 + 1, none⟩ (.bool false)).setCell ⟨p.nb, kv * 6 + 1, none⟩ (.bool true)).drew = w5 at HF3 HS3 ⊢
      clear hsl c1 f1 c2 f2 s2 s3 HW1 HS1 HC
      have HTU := Lib.hid (turn_ok HF3.out HT.out)
      go_wp2_with fail
      refine HTU.out.mono ?_
      rintro e' w6 ⟨rfl, hw6, hs6⟩
      have HW6 := Lib.hid hw6
      have HS6 := Lib.hid (HS3.out.trans hs6)
      have HC6 := Lib.hid (child_at hw6 ((has_len (by rw [turn_len, HL.out])).2 HX.out) (!s))
      clear HTU hw6 hs6 HF3 HS3
      go_wp2_with fail
      refine (HC6.out).mono ?_
      rintro e' w' ⟨rfl, rfl⟩
      go_wp2_with fail
      go_meet
      case rel => exact ⟨_, _, rfl, Lib.hid ⟨HW6.out, HS6.out, rfl, HSF.out⟩⟩
  case rest =>
    obtain ⟨t1, v1, rfl, HR⟩ := hcut
    obtain ⟨hw, hs, ev, v2, f2, hx, ev2, hv, ef2, hf2, ht, ht'⟩ := HR.out
    obtain rfl : v2 = v1 := ev2.symm.trans ev
    obtain ⟨kv, rfl, hkv⟩ := has_nat hv
    obtain ⟨kf, rfl, hkf⟩ := has_nat hf2
    obtain ⟨kx, rfl, hkx⟩ := has_nat hx
    have HT := Lib.hid ht
    have HT' := Lib.hid ht'
    have HW2 := Lib.hid hw
    have HS2 := Lib.hid hs
    have EF2 := Lib.hid ef2
    have HX2 := Lib.hid hx
    have hsl := hw.slc
    have cap1 := hw.cap1
    have c0 := hw.redc hkx
    have c1 := hw.redc hkv
    have f1 := hw.frozen (kv * 6 + 1)
    clear HR hw hs ev hx ev2 ef2 hf2 ht ht' HW1 HS1 HWAY HX HV EV EF HF HRF
    obtain ⟨rx, hrx⟩ : ∃ r, (t1.nd kx).red = r := ⟨_, rfl⟩
    rw [hrx] at c0 HT HT'
    clear hrx
    generalize (t1.nd kv).red = r1 at c1
    have h3 := HW2.out.paint hkv rx
    have HW3 := Lib.hid h3.drew
    have HS3 := Lib.hid (HS2.out.set (q := ⟨p.nb, kv * 6 + 1, none⟩) (.inr (.inl rfl)) (.bool rx)).drew
    clear h3
    go_wp2_with fail
    go_region
    generalize (wc.setCell ⟨p.nb, kv * 6 + 1, none⟩ (.bool rx)).drew = w3 at HW3 HS3 ⊢
    clear hsl c0 c1 f1 HW2 HS2
    obtain ⟨t3, ht3⟩ : ∃ t3, t1.paint kv rx = t3 := ⟨_, rfl⟩
    have EL : Hid (t3.ns.length = t1.ns.length) := Lib.hid (by rw [← ht3, paint_len])
    have EK : Hid (t3.kid kv (!s) = kf) := Lib.hid (by rw [← ht3, kid_paint]; exact EF2.out)
    rw [ht3] at HW3 HT HT'
    have HV3 : Hid (t3.has kv) := Lib.hid ((has_len EL.out).2 (by unfold T.has; omega))
    clear ht3 EF2
    rw [← EL.out] at hkx hkf
    have HC := Lib.hid (child_at HW3.out.drew HV3.out (!s))
    rw [EK.out] at HC
    have hsl := HW3.out.slc
    have cap1 := HW3.out.cap1
    have c1 := HW3.out.redc hkx
    have f1 := HW3.out.frozen (kx * 6 + 1)
    have hk2 : kf < (t3.paint kx false).ns.length := by rw [paint_len]; exact hkf
    have h2 := HW3.out.paint hkx false
    have c2 := h2.redc hk2
    have f2 := h2.frozen (kf * 6 + 1)
    have s2 := h2.slc
    have h4 := h2.paint hk2 false
    have s3 := h4.slc
    rw [paint_len] at s2 s3
    rw [paint_len] at s3
    have HF4 := Lib.hid h4.drew
    have HS4 := Lib.hid ((HS3.out.set (q := ⟨p.nb, kx * 6 + 1, none⟩) (.inr (.inl rfl)) (.bool false)).set (q := ⟨p.nb, kf * 6 + 1, none⟩) (.inr (.inl rfl)) (.bool false)).drew
    generalize (t3.nd kx).red = r1 at c1
    generalize ((t3.paint kx false).nd kf).red = r2 at c2
    clear h2 h4 hk2
    go_wp2_with fail
    go_region_held3 (fun X => X.cell? ⟨p.b, 1, none⟩ = some (.slice (some ⟨p.nb, 0, none⟩) t3.ns.length p.cap))
      (first | exact hsl | exact s2 | exact s3 | go_keep)
      (first | (go_at_call 71; refine HC.out.mono ?_; rintro e' w' ⟨rfl, rfl⟩))
    generalize ((w3.setCell ⟨p.nb, kx * 6 + 1, none⟩ (.bool false)).setCell ⟨p.nb, kf * 6 + 1, none⟩ (.bool false)).drew = w5 at HF4 HS4 ⊢
    clear hsl c1 f1 c2 f2 s2 s3 HW3 HS3 HC
    have HTU := Lib.hid (turn_ok HF4.out HT.out)
    go_wp2_with fail
    refine HTU.out.mono ?_
    rintro e' w6 ⟨rfl, hw6, hs6⟩
    have HW6 := Lib.hid hw6
    have HS6 := Lib.hid (HS4.out.trans hs6)
    clear HTU hw6 hs6 HF4 HS4
    go_wp2
    go_end0
    refine ⟨rfl, ?_, HS6.out⟩
    rw [HT'.out]
    exact HW6.out
end Go.Proofs.Ytgjacmkedgbneaa
