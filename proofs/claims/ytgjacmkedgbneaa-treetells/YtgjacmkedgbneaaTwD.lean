/-
  Contract of a work's mend, over what mending makes of a tree.
-/
import Derived.Test.YtgjacmkedgbneaaTwC
import Derived.Deep.LoopGhost
namespace Go.Proofs.Ytgjacmkedgbneaa
open Go.RowKit Go.Sort Wd Tn Ky Tr

/-- Up of a node, as a walk reads it. -/
theorem Wk.upc {p : Wp} {w : World} {t : T} (h : Wk p w t) {k : Nat} (hk : k < t.ns.length) : w.cell? ⟨p.nb, k * 6 + 5, none⟩ = some (.int .i64 (t.up k)) := (h.nc hk).2.2.2.2.2
theorem Wk.redc {p : Wp} {w : World} {t : T} (h : Wk p w t) {k : Nat} (hk : k < t.ns.length) : w.cell? ⟨p.nb, k * 6 + 1, none⟩ = some (.bool (t.nd k).red) := (h.nc hk).2.1
theorem Wk.slc {p : Wp} {w : World} {t : T} (h : Wk p w t) : w.cell? ⟨p.b, 1, none⟩ = some (.slice (some ⟨p.nb, 0, none⟩) t.ns.length p.cap) := h.cells.2.1

theorem mend_parts {n : Nat} {t t' : T} {x : Int} (h : Mend n t x t') :
    (t.has x ∧ t.ok (t.up x) ∧ t.redB (t.up x) = false ∧ t.has t.root ∧ t' = t.paint t.root false) ∨
    ∃ (m : Nat) (p g u : Int) (s : Bool), n = m + 1 ∧ t.has x ∧ t.up x = p ∧ t.has p ∧ t.redB p = true ∧ t.up p = g ∧ t.has g ∧ t.side p = s ∧ t.kid g (!s) = u ∧ t.ok u ∧
      ((t.redB u = true ∧ t.has u ∧ Mend m (((t.paint p false).paint u false).paint g true) g t') ∨
       (t.redB u = false ∧ t.kid p (!s) ≠ x ∧ TurnOk ((t.paint p false).paint g true) g (!s) ∧ Mend m (((t.paint p false).paint g true).turn g (!s)) x t') ∨
       (t.redB u = false ∧ t.kid p (!s) = x ∧ TurnOk t p s ∧ TurnOk (((t.turn p s).paint x false).paint g true) g (!s) ∧ Mend m ((((t.turn p s).paint x false).paint g true).turn g (!s)) p t')) := by
  cases h with
  | done n t x hx hu hr h0 => exact .inl ⟨hx, hu, hr, h0, rfl⟩
  | up n t _ x p g u s hx ep hp rp eg hg es eu hu ru rest => exact .inr ⟨_, p, g, u, s, rfl, hx, ep, hp, rp, eg, hg, es, eu, .inr hu, .inl ⟨ru, hu, rest⟩⟩
  | out n t _ x p g u s hx ep hp rp eg hg es eu hu ru ex nx ht rest => exact .inr ⟨_, p, g, u, s, rfl, hx, ep, hp, rp, eg, hg, es, eu, hu, .inr (.inl ⟨ru, nx, ht, rest⟩)⟩
  | inn n t _ x p g u s hx ep hp rp eg hg es eu hu ru ex nx h1 e1 ht rest => exact .inr ⟨_, p, g, u, s, rfl, hx, ep, hp, rp, eg, hg, es, eu, hu, .inr (.inr ⟨ru, nx, h1, ht, rest⟩)⟩

set_option maxHeartbeats 2000000 in
set_option maxRecDepth 100000 in
theorem mend_at {p : Wp} {n : Nat} {w : World} {t t' : T} {x : Int} (h : Wk p w t) (hm : Mend n t x t') :
    Calls Try.prog 67 #[.pointer (some ⟨p.b, 0, none⟩), .int .i64 x] w fun e w' => e = .returned (.tuple #[]) ∧ Wk p w' t' ∧ Ws p w w' := by
  have H0 := Lib.hid (And.intro h hm)
  have cap2 := h.cap2
  clear h hm
  go_enter Try.func67, Try.ntmps67
  go_wp2_with fail
  go_loopg [1] n (fun k x1 wr => ∃ (t1 : T) (x2 : Int), x1 = .int .i64 x2 ∧ Hid (Wk p wr t1 ∧ Ws p w wr ∧ Mend k t1 x2 t'))
  case atStart => exact ⟨t, x, rfl, Lib.hid ⟨H0.out.1, Ws.refl p w, H0.out.2⟩⟩
  case round =>
    obtain ⟨t1, x2, rfl, HR⟩ := hrel
    clear H0
    obtain ⟨hw, hs, hm⟩ := HR.out
    have HW := Lib.hid hw
    have HS := Lib.hid hs
    have HL := Lib.hid (And.intro hw.cap1 hw.cap2)
    clear HR hs
    rcases mend_parts hm with ⟨hx, hu, hr, h0, ht'⟩ | ⟨m, p', g, u, s, hmn, hx, ep, hp, rp, eg, hg, es, eu, hu, hway⟩
    · obtain ⟨k, rfl, hk⟩ := has_nat hx
      have hup := hw.upc hk
      have hsl := hw.slc
      have HRD : Hid (∀ n, Calls Try.prog 57 #[.pointer (some ⟨p.b, 0, none⟩), .int .i64 (t1.up k)] (wr.drewN n) fun e w' => e = .returned (.bool false) ∧ w' = wr.drewN n) := Lib.hid (fun n => by rw [← hr]; exact (red_at (hw.gr (Gr.drew _ n)).tp hu).mono fun _ _ h => ⟨h.1, h.2.symm⟩)
      obtain ⟨m, hme, hmk⟩ := has_nat h0
      have HM := Lib.hid hme
      have HT := Lib.hid ht'
      generalize t1.up k = u at hup HRD
      have cap1 := hw.cap1
      clear hw hx hr hu h0 hme ht' hm
      go_wp2_with fail
      go_quiet (first | (go_at_call 57; refine Calls.quiet_of_same (HRD.out _)))
      have HW1 := Lib.hid (HW.out.gr (Gr.drew _ nq))
      have HS1 := Lib.hid (HS.out.trans (Ws.of_gr (Gr.drew _ nq)))
      clear HRD hup hsl
      generalize wr.drewN nq = w1 at HW1 HS1 ⊢
      have hsl := HW1.out.slc
      have hrt := HW1.out.cells.1
      rw [HM.out] at hrt
      have hrd := HW1.out.redc hmk
      have hfz := HW1.out.frozen (m * 6 + 1)
      generalize (t1.nd m).red = rr at hrd
      have HF := Lib.hid (HW1.out.paint hmk false)
      have HSF := Lib.hid (HS1.out.set (q := ⟨p.nb, m * 6 + 1, none⟩) (.inr (.inl rfl)) (.bool false))
      go_wp2
      go_region
      go_end0
      refine ⟨rfl, ?_, HSF.out.drew⟩
      rw [HT.out, HM.out]
      exact HF.out.drew
    · obtain ⟨k, rfl, hk⟩ := has_nat hx
      obtain ⟨kp, rfl, hkp⟩ := has_nat hp
      have hup := hw.upc hk
      rw [ep] at hup
      have hsl := hw.slc
      have HRD : Hid (∀ n, Calls Try.prog 57 #[.pointer (some ⟨p.b, 0, none⟩), .int .i64 kp] (wr.drewN n) fun e w' => e = .returned (.bool true) ∧ w' = wr.drewN n) := Lib.hid (fun n => by rw [← rp]; exact (red_at (hw.gr (Gr.drew _ n)).tp (.inr hp)).mono fun _ _ h => ⟨h.1, h.2.symm⟩)
      have EP := Lib.hid ep
      have EG := Lib.hid eg
      have ES := Lib.hid es
      have EU := Lib.hid eu
      have HX := Lib.hid hx
      have HPP := Lib.hid hp
      have HG := Lib.hid hg
      have HU := Lib.hid hu
      have HMN := Lib.hid hmn
      have HWAY := Lib.hid hway
      have cap1 := hw.cap1
      clear hw hx ep hp rp eg hg es eu hu hway hm hmn
      go_wp2_with fail
      go_quiet (first | (go_at_call 57; refine Calls.quiet_of_same (HRD.out _)))
      have HW1 := Lib.hid (HW.out.gr (Gr.drew _ nq))
      have HS1 := Lib.hid (HS.out.trans (Ws.of_gr (Gr.drew _ nq)))
      clear HRD hup hsl HW HS
      generalize wr.drewN nq = w1 at HW1 HS1 ⊢
      have hsl := HW1.out.slc
      have hup := HW1.out.upc hk
      rw [EP.out] at hup
      have HP := Lib.hid (place_at HW1.out HPP.out (by rw [EG.out]; exact .inr HG.out))
      rw [EG.out, ES.out] at HP
      go_wp2_with fail
      refine HP.out.mono ?_
      rintro e' w2 ⟨rfl, hg2⟩
      have HW2 := Lib.hid (HW1.out.gr hg2)
      have HS2 := Lib.hid (HS1.out.trans (Ws.of_gr hg2))
      clear hg2 HP hsl hup HW1 HS1
      have HPB := Lib.hid (Pb.new HW2.out g s)
      have HW3 := Lib.hid (HW2.out.alloc (.cells #[.int .i64 g, .int .i64 (sI s)] 91))
      have HS3 := Lib.hid (HS2.out.alloc (.cells #[.int .i64 g, .int .i64 (sI s)] 91))
      go_wp2_with fail
      generalize hq : w2.heap.size = q at HPB ⊢
      generalize w2.alloc (.cells #[.int .i64 g, .int .i64 (sI s)] 91) = w3 at HPB HW3 HS3 ⊢
      clear hq HW2 HS2
      obtain ⟨d0, d1, -, -⟩ := HPB.out.cells
      go_quiet (fail)
      have HW4 := Lib.hid (HW3.out.gr (Gr.drew _ nq))
      have HS4 := Lib.hid (HS3.out.trans (Ws.of_gr (Gr.drew _ nq)))
      clear HPB HW3 HS3 d0 d1
      generalize w3.drewN nq = w4 at HW4 HS4 ⊢
      go_wp2_with fail
      refine (other_at s _).mono ?_
      rintro e' w' ⟨rfl, rfl⟩
      have HC1 := Lib.hid (child_at HW4.out HG.out (!s))
      rw [EU.out] at HC1
      go_wp2_with fail
      refine (HC1.out).mono ?_
      rintro e' w' ⟨rfl, rfl⟩
      clear HC1
      have HRU := Lib.hid (red_at HW4.out.tp HU.out)
      go_wp2_with fail
      refine (HRU.out).mono ?_
      rintro e' w' ⟨rfl, rfl⟩
      clear HRU
      rcases HWAY.out with ⟨ru, hu, rest⟩ | ⟨ru, nx, ht, rest⟩ | ⟨ru, nx, h1, ht, rest⟩
      · obtain ⟨kg, rfl, hkg⟩ := has_nat HG.out
        obtain ⟨ku, rfl, hku⟩ := has_nat hu
        have RU := Lib.hid ru
        have HN := Lib.hid rest
        rw [ru]
        clear ru hu rest HWAY
        have hsl := HW4.out.slc
        have c1 := HW4.out.redc hkp
        have f1 := HW4.out.frozen (kp * 6 + 1)
        have hk2 : ku < (t1.paint kp false).ns.length := by rw [paint_len]; exact hku
        have h2 := HW4.out.paint hkp false
        have c2 := h2.redc hk2
        have f2 := h2.frozen (ku * 6 + 1)
        have hk3 : kg < ((t1.paint kp false).paint ku false).ns.length := by rw [paint_len, paint_len]; exact hkg
        have h3 := h2.paint hk2 false
        have c3 := h3.redc hk3
        have f3 := h3.frozen (kg * 6 + 1)
        have HF := Lib.hid (h3.paint hk3 true)
        have HSF := Lib.hid (((HS4.out.set (q := ⟨p.nb, kp * 6 + 1, none⟩) (.inr (.inl rfl)) (.bool false)).set (q := ⟨p.nb, ku * 6 + 1, none⟩) (.inr (.inl rfl)) (.bool false)).set (q := ⟨p.nb, kg * 6 + 1, none⟩) (.inr (.inl rfl)) (.bool true))
        generalize (t1.nd kp).red = r1 at c1
        generalize ((t1.paint kp false).nd ku).red = r2 at c2
        generalize (((t1.paint kp false).paint ku false).nd kg).red = r3 at c3
        clear h2 h3 hk2 hk3
        go_wp2
        go_region
        go_wp2
        go_roundg m
        case measure => have := HMN.out; omega
        case rel => exact ⟨_, _, rfl, Lib.hid ⟨HF.out.drew, HSF.out.drew, HN.out⟩⟩
      · obtain ⟨kg, rfl, hkg⟩ := has_nat HG.out
        have NX := Lib.hid nx
        have HT := Lib.hid ht
        have HN := Lib.hid rest
        rw [ru]
        have HC2 := Lib.hid (child_at HW4.out HPP.out (!s))
        have hne : (t1.kid kp (!s) == (k : Int)) = false := by rw [beq_eq_false_iff_ne]; exact nx
        generalize t1.kid kp (!s) = z at HC2 hne
        clear ru nx ht rest HWAY
        go_wp2_with fail
        refine (other_at s _).mono ?_
        rintro e' w' ⟨rfl, rfl⟩
        go_wp2_with fail
        refine (HC2.out).mono ?_
        rintro e' w' ⟨rfl, rfl⟩
        clear HC2
        have hsl := HW4.out.slc
        have c1 := HW4.out.redc hkp
        have f1 := HW4.out.frozen (kp * 6 + 1)
        have hk2 : kg < (t1.paint kp false).ns.length := by rw [paint_len]; exact hkg
        have h2 := HW4.out.paint hkp false
        have c2 := h2.redc hk2
        have f2 := h2.frozen (kg * 6 + 1)
        have h3 := h2.paint hk2 true
        have HF := Lib.hid h3.drew
        have HSF := Lib.hid ((HS4.out.set (q := ⟨p.nb, kp * 6 + 1, none⟩) (.inr (.inl rfl)) (.bool false)).set (q := ⟨p.nb, kg * 6 + 1, none⟩) (.inr (.inl rfl)) (.bool true)).drew
        generalize (t1.nd kp).red = r1 at c1
        generalize ((t1.paint kp false).nd kg).red = r2 at c2
        clear h2 h3 hk2
        go_wp2_with fail
        go_region
        generalize ((w4.setCell ⟨p.nb, kp * 6 + 1, none⟩ (.bool false)).setCell ⟨p.nb, kg * 6 + 1, none⟩ (.bool true)).drew = w5 at HF HSF ⊢
        clear hsl c1 f1 c2 f2 HW4 HS4
        go_wp2_with fail
        refine (other_at s _).mono ?_
        rintro e' w' ⟨rfl, rfl⟩
        have HTU := Lib.hid (turn_ok HF.out HT.out)
        go_wp2_with fail
        refine HTU.out.mono ?_
        rintro e' w6 ⟨rfl, hw6, hs6⟩
        have HW6 := Lib.hid hw6
        have HS6 := Lib.hid (HSF.out.trans hs6)
        clear HTU hw6 hs6 HF HSF
        go_wp2
        go_roundg m
        case measure => have := HMN.out; omega
        case rel => exact ⟨_, _, rfl, Lib.hid ⟨HW6.out, HS6.out, HN.out⟩⟩
      · obtain ⟨kg, rfl, hkg⟩ := has_nat HG.out
        have HT1 := Lib.hid h1
        have HT := Lib.hid ht
        have HN := Lib.hid rest
        rw [ru]
        have HC2 := Lib.hid (child_at HW4.out HPP.out (!s))
        rw [nx] at HC2
        clear ru nx ht rest HWAY h1
        go_wp2_with fail
        refine (other_at s _).mono ?_
        rintro e' w' ⟨rfl, rfl⟩
        go_wp2_with fail
        refine (HC2.out).mono ?_
        rintro e' w' ⟨rfl, rfl⟩
        clear HC2
        have HTU := Lib.hid (turn_ok HW4.out HT1.out)
        go_wp2_with fail
        refine HTU.out.mono ?_
        rintro e' w5 ⟨rfl, hw5, hs5⟩
        obtain ⟨t2, ht2⟩ : ∃ t2, t1.turn kp s = t2 := ⟨_, rfl⟩
        have hl2 : t2.ns.length = t1.ns.length := by rw [← ht2, turn_len]
        rw [ht2] at hw5 HT HN
        have HW5 := Lib.hid hw5
        have HS5 := Lib.hid (HS4.out.trans hs5)
        clear HTU hw5 hs5 HW4 HS4 ht2
        rw [← hl2] at hk hkg
        have hsl := HW5.out.slc
        have cap1' := HW5.out.cap1
        have c1 := HW5.out.redc hk
        have f1 := HW5.out.frozen (k * 6 + 1)
        have hk2 : kg < (t2.paint k false).ns.length := by rw [paint_len]; exact hkg
        have h2 := HW5.out.paint hk false
        have c2 := h2.redc hk2
        have f2 := h2.frozen (kg * 6 + 1)
        have h3 := h2.paint hk2 true
        have HF := Lib.hid h3.drew
        have HSF := Lib.hid ((HS5.out.set (q := ⟨p.nb, k * 6 + 1, none⟩) (.inr (.inl rfl)) (.bool false)).set (q := ⟨p.nb, kg * 6 + 1, none⟩) (.inr (.inl rfl)) (.bool true)).drew
        generalize (t2.nd k).red = r1 at c1
        generalize ((t2.paint k false).nd kg).red = r2 at c2
        have HL2 := Lib.hid hl2
        clear h2 h3 hk2 hl2
        go_wp2_with fail
        go_region
        generalize ((w5.setCell ⟨p.nb, k * 6 + 1, none⟩ (.bool false)).setCell ⟨p.nb, kg * 6 + 1, none⟩ (.bool true)).drew = w6 at HF HSF ⊢
        clear hsl c1 f1 c2 f2 HW5 HS5
        go_wp2_with fail
        refine (other_at s _).mono ?_
        rintro e' w' ⟨rfl, rfl⟩
        have HTU := Lib.hid (turn_ok HF.out HT.out)
        go_wp2_with fail
        refine HTU.out.mono ?_
        rintro e' w7 ⟨rfl, hw7, hs7⟩
        have HW7 := Lib.hid hw7
        have HS7 := Lib.hid (HSF.out.trans hs7)
        clear HTU hw7 hs7 HF HSF
        go_wp2
        go_roundg m
        case measure => have := HMN.out; omega
        case rel => exact ⟨_, _, rfl, Lib.hid ⟨HW7.out, HS7.out, HN.out⟩⟩
end Go.Proofs.Ytgjacmkedgbneaa
