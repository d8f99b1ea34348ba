/-
  Contract of a work's remove.
-/
import Derived.Test.YtgjacmkedgbneaaTwH
namespace Go.Proofs.Ytgjacmkedgbneaa
open Go.RowKit Go.Sort Wd Tn Ky Tr

theorem out_parts {t t1 : T} {z u : Int} {g s : Bool} (h : Out t z t1 g u s) :
    (t.kid z false = -1 ∧ t.ok (t.kid z true) ∧ t.hang (t.up z) (t.side z) (t.kid z true) = t1 ∧ (t.nd z).red = g ∧ t.up z = u ∧ t.side z = s) ∨
    (t.kid z false ≠ -1 ∧ t.ok (t.kid z false) ∧ t.kid z true = -1 ∧ t.hang (t.up z) (t.side z) (t.kid z false) = t1 ∧ (t.nd z).red = g ∧ t.up z = u ∧ t.side z = s) ∨
    ∃ n y, t.kid z false ≠ -1 ∧ t.kid z true ≠ -1 ∧ Leftmost t n (t.kid z true) y ∧ RepOk t z y ∧ rep5 t z y = t1 ∧ (t.nd y).red = g ∧ (if t.up y = z then y else t.up y) = u ∧ t.side y = s := by
  cases h with
  | left hl hr => exact .inl ⟨hl, hr, rfl, rfl, rfl, rfl⟩
  | right hl hl' hr => exact .inr (.inl ⟨hl, hl', hr, rfl, rfl, rfl, rfl⟩)
  | both n y hl hr hm ho => exact .inr (.inr ⟨n, y, hl, hr, hm, ho, rfl, rfl, rfl, rfl⟩)

set_option maxHeartbeats 4000000 in
set_option maxRecDepth 100000 in
theorem remove_at {p : Wp} {w : World} {t t' : T} {z : Int} (h : Wk p w t) (hm : Remove t z t') :
    Calls Try.prog 42 #[.pointer (some ⟨p.b, 0, none⟩), .int .i64 z] w fun e w' => e = .returned (.tuple #[]) ∧ Wk p w' t' ∧ Ws p w w' := by
  have mixed : Try.prog.follows .mixedOrders = true := by kernel_rfl
  obtain ⟨hz, hu, t1, g, u, s, hout, hend⟩ := hm
  have HZ := Lib.hid hz
  have HU := Lib.hid hu
  have HOUT := Lib.hid hout
  have HEND := Lib.hid hend
  have HW0 := Lib.hid h
  have cap2 := h.cap2
  have cap1 := h.cap1
  obtain ⟨kz, rfl, hkz⟩ := has_nat hz
  have HPL := Lib.hid (fun X (hX : Wk p X t) => place_at hX hz hu)
  obtain ⟨uz, huz⟩ : ∃ u, t.up kz = u := ⟨_, rfl⟩
  have HUZ := Lib.hid huz
  obtain ⟨sz, hsz⟩ : ∃ u, t.side kz = u := ⟨_, rfl⟩
  have HSZ := Lib.hid hsz
  obtain ⟨gone, hgone⟩ : ∃ g, (t.nd kz).red = g := ⟨_, rfl⟩
  have HG := Lib.hid hgone
  rw [huz, hsz] at HPL
  have HWD := Lib.hid HW0.out.drew
  have HWA := Lib.hid (HW0.out.alloc (.cells #[.int .i64 0, .int .i64 0] 91)).drew
  have HSX : Hid (∀ X, Wk p X t → X.cell? ⟨p.b, 1, none⟩ = some (.slice (some ⟨p.nb, 0, none⟩) t.ns.length p.cap) ∧ X.cell? ⟨p.nb, kz * 6 + 1, none⟩ = some (.bool gone)) := Lib.hid (fun X hX => ⟨hX.slc, by rw [← HG.out]; exact hX.redc hkz⟩)
  have HPZ : Hid (∀ X, Gr (w.alloc (.cells #[.int .i64 0, .int .i64 0] 91)).drew X → Pb p X w.heap.size 0 false) := Lib.hid (fun X hX => ((Pb.new HW0.out 0 false).gr (Gr.drew _ 1)).gr hX)
  have HPY : Hid (∀ X, Gr (w.alloc (.cells #[.int .i64 0, .int .i64 0] 91)).drew X → X.cell? ⟨w.heap.size, 0, none⟩ = some (.int .i64 0) ∧ X.cell? ⟨w.heap.size, 1, none⟩ = some (.int .i64 0) ∧ X.frozen? ⟨w.heap.size, 0, none⟩ = false ∧ X.frozen? ⟨w.heap.size, 1, none⟩ = false) := Lib.hid (fun X hX => (HPZ.out X hX).cells)
  have HPLD := Lib.hid (HPL.out _ HWD.out)
  have HPLA := Lib.hid ((HPL.out _ HWA.out).mono (R' := fun e w' => (e = .returned (.agg #[.int .i64 uz, .int .i64 (sI sz)]) ∧ Gr (w.alloc (.cells #[.int .i64 0, .int .i64 0] 91)).drew w') ∧ w'.cell? ⟨w.heap.size, 0, none⟩ = some (.int .i64 0) ∧ w'.cell? ⟨w.heap.size, 1, none⟩ = some (.int .i64 0) ∧ w'.frozen? ⟨w.heap.size, 0, none⟩ = false ∧ w'.frozen? ⟨w.heap.size, 1, none⟩ = false) fun e w' h => ⟨h, HPY.out _ h.2⟩)
  have hc1 := (HSX.out _ HW0.out).1
  have hc2 := (HSX.out _ HW0.out).2
  clear h hz hu hout hend huz hsz hgone
  go_enter Try.func42, Try.ntmps42
  go_upto_region 0 with fail
  go_cut [4, 5] (fun s4 s5 wx => ∃ q : Nat, s4 = .bool gone ∧ s5 = .pointer (some ⟨q, 0, none⟩) ∧ Hid (Wk p wx t ∧ Ws p w wx ∧ Pb p wx q uz sz ∧ w.heap.size ≤ q))
  case first =>
    go_region_held3 (fun X => X.cell? ⟨p.b, 1, none⟩ = some (.slice (some ⟨p.nb, 0, none⟩) t.ns.length p.cap) ∧ X.cell? ⟨p.nb, kz * 6 + 1, none⟩ = some (.bool gone))
      (first
        | exact HSX.out _ HWD.out
        | exact HSX.out _ HWA.out
        | exact HSX.out _ (HWD.out.gr hg1)
        | exact HSX.out _ (HWA.out.gr hg1)
        | exact HSX.out _ ((HWD.out.gr hg1).alloc _)
        | exact HSX.out _ (((HWA.out.gr hg1).other (fun e => (HPZ.out _ hg1).2.1 e.symm) (fun e => (HPZ.out _ hg1).2.2 e.symm)).other (fun e => (HPZ.out _ hg1).2.1 e.symm) (fun e => (HPZ.out _ hg1).2.2 e.symm))
        | go_keep)
      (first
        | (go_at_call 70; with_reducible refine HPLD.out.mono ?_; rintro e' w1 ⟨rfl, hg1⟩)
        | (go_at_call 70; with_reducible refine HPLA.out.mono ?_; rintro e' w1 ⟨⟨rfl, hg1⟩, z0, z1, z2, z3⟩))
    · have HF := Lib.hid (And.intro ((HWD.out.gr hg1).alloc (.cells #[.int .i64 uz, .int .i64 (sI sz)] 91)) (And.intro ((Ws.refl p w).drew.trans (Ws.of_gr (hg1.trans (Gr.alloc _ (.cells #[.int .i64 uz, .int .i64 (sI sz)] 91))))) (And.intro (Pb.new (HWD.out.gr hg1) uz sz) (show w.heap.size ≤ w1.heap.size from hg1.below.size))))
      go_wp2_with fail
      go_meet
      case rel => exact ⟨_, rfl, rfl, HF⟩
    · have HPW := Lib.hid (HPZ.out _ hg1)
      have HF := Lib.hid (And.intro (((HWA.out.gr hg1).other (q := ⟨w.heap.size, 0, none⟩) (v := .int .i64 uz) (fun e => HPW.out.2.1 e.symm) (fun e => HPW.out.2.2 e.symm)).other (q := ⟨w.heap.size, 1, none⟩) (v := .int .i64 (sI sz)) (fun e => HPW.out.2.1 e.symm) (fun e => HPW.out.2.2 e.symm))
        (And.intro (((((Ws.refl p w).alloc _).drew.trans (Ws.of_gr hg1)).set (q := ⟨w.heap.size, 0, none⟩) (.inr (.inr (Nat.le_refl _))) (.int .i64 uz)).set (q := ⟨w.heap.size, 1, none⟩) (.inr (.inr (Nat.le_refl _))) (.int .i64 (sI sz))) (And.intro (HPW.out.store uz sz) (Nat.le_refl w.heap.size))))
      go_wp2_with fail
      go_meet
      case rel => exact ⟨_, rfl, rfl, HF⟩
  case rest =>
    obtain ⟨q, rfl, rfl, HR⟩ := hcut
    have HW1 := Lib.hid HR.out.1
    have HS1 := Lib.hid HR.out.2.1
    have HP1 := Lib.hid HR.out.2.2.1
    have HQ := Lib.hid HR.out.2.2.2
    clear HR HW0 HPL HPLD HPLA HWD HWA HSX HPZ HPY hc1 hc2
    generalize wc = w1 at HW1 HS1 HP1 ⊢
    obtain ⟨pc0, pc1, pf0, pf1⟩ := HP1.out.cells
    have HCL := Lib.hid (fun X (hX : Wk p X t) => child_at hX HZ.out false)
    have HCR := Lib.hid (fun X (hX : Wk p X t) => child_at hX HZ.out true)
    rw [show sI false = 0 from rfl] at HCL
    rw [show sI true = 1 from rfl] at HCR
    have HL1 := Lib.hid HOUT.out.len
    have hkz1 : kz < t1.ns.length := by rw [HL1.out]; exact hkz
    rcases out_parts HOUT.out with ⟨hl, hr, ht1, hge, hue, hse⟩ | ⟨hl, hl', hr, ht1, hge, hue, hse⟩ | ⟨n, y, hl, hr, hm, ho, ht1, hge, hue, hse⟩
    · have HC1 := Lib.hid (HCL.out _ HW1.out)
      rw [hl] at HC1
      go_wp2_with fail
      refine (HC1.out).mono ?_
      rintro e' w' ⟨rfl, rfl⟩
      clear HC1
      have HH := Lib.hid (hang_at HW1.out.drew HU.out hr (t.side kz))
      rw [show t.hang (t.up kz) (t.side kz) (t.kid kz true) = t1 from ht1, HUZ.out, HSZ.out] at HH
      have HD : Hid (Pb p w1.drew q uz sz) := Lib.hid (HP1.out.gr (Gr.drew _ 1))
      have HC := Lib.hid (HCR.out _ HW1.out.drew)
      generalize t.kid kz true = cc at *
      go_wp2_with fail
      go_region_held3 (fun X => X.cell? ⟨q, 0, none⟩ = some (.int .i64 uz) ∧ X.cell? ⟨q, 1, none⟩ = some (.int .i64 (sI sz)))
        (first | exact ⟨HD.out.cells.1, HD.out.cells.2.1⟩ | exact ⟨(HD.out.ws hs2).cells.1, (HD.out.ws hs2).cells.2.1⟩ | go_keep)
        (first
          | (go_at_call 71; with_reducible refine HC.out.mono ?_; rintro e' w' ⟨rfl, rfl⟩)
          | (go_at_call 66; with_reducible refine HH.out.mono ?_; rintro e' w2 ⟨rfl, hw2, hs2⟩))
      have HW2 := Lib.hid hw2
      have HX2 : Hid (Ws p w1 w2) := Lib.hid ((Ws.refl p w1).drew.trans hs2)
      have HS2 := Lib.hid (HS1.out.trans HX2.out)
      have HP2 := Lib.hid (HP1.out.ws HX2.out)
      clear hw2 hs2 HX2 HD HC HH HW1 HS1 HP1
      obtain rfl : g = gone := hge.symm.trans HG.out
      obtain rfl : u = uz := hue.symm.trans HUZ.out
      obtain rfl : s = sz := hse.symm.trans HSZ.out
      clear hge hue hse ht1
      have HPC := Lib.hid (HP2.out.gr (Gr.drew _ 1))
      have HNX : Hid (∀ X, Gr w2.drew X → (X.cell? ⟨p.nb, kz * 6, none⟩ = some (.bool (t1.nd kz).inn) ∧ X.cell? ⟨p.nb, kz * 6 + 1, none⟩ = some (.bool (t1.nd kz).red) ∧ X.cell? ⟨p.nb, kz * 6 + 2, none⟩ = some (.int .u64 (t1.nd kz).v) ∧ X.cell? ⟨p.nb, kz * 6 + 3, none⟩ = some (.int .i64 (t1.nd kz).l) ∧ X.cell? ⟨p.nb, kz * 6 + 4, none⟩ = some (.int .i64 (t1.nd kz).r) ∧ X.cell? ⟨p.nb, kz * 6 + 5, none⟩ = some (.int .i64 (t1.nd kz).u)) ∧ X.frozen? ⟨p.nb, kz * 6, none⟩ = false ∧ X.frozen? ⟨p.nb, kz * 6 + 1, none⟩ = false ∧ X.frozen? ⟨p.nb, kz * 6 + 2, none⟩ = false ∧ X.frozen? ⟨p.nb, kz * 6 + 3, none⟩ = false ∧ X.frozen? ⟨p.nb, kz * 6 + 4, none⟩ = false ∧ X.frozen? ⟨p.nb, kz * 6 + 5, none⟩ = false) := Lib.hid (fun X hX =>
        have hx := HW2.out.drew.gr hX
        ⟨hx.nc hkz1, hx.frozen _, hx.frozen _, hx.frozen _, hx.frozen _, hx.frozen _, hx.frozen _⟩)
      generalize t1.nd kz = nz at HNX
      have HEM := Lib.hid ((empty_at w2.drew).mono (R' := fun e w' => (e = .returned (.agg #[.bool false, .bool false, .int .u64 0, .int .i64 (-1), .int .i64 (-1), .int .i64 (-1)]) ∧ Gr w2.drew w') ∧ (w'.cell? ⟨p.nb, kz * 6, none⟩ = some (.bool nz.inn) ∧ w'.cell? ⟨p.nb, kz * 6 + 1, none⟩ = some (.bool nz.red) ∧ w'.cell? ⟨p.nb, kz * 6 + 2, none⟩ = some (.int .u64 nz.v) ∧ w'.cell? ⟨p.nb, kz * 6 + 3, none⟩ = some (.int .i64 nz.l) ∧ w'.cell? ⟨p.nb, kz * 6 + 4, none⟩ = some (.int .i64 nz.r) ∧ w'.cell? ⟨p.nb, kz * 6 + 5, none⟩ = some (.int .i64 nz.u)) ∧ w'.frozen? ⟨p.nb, kz * 6, none⟩ = false ∧ w'.frozen? ⟨p.nb, kz * 6 + 1, none⟩ = false ∧ w'.frozen? ⟨p.nb, kz * 6 + 2, none⟩ = false ∧ w'.frozen? ⟨p.nb, kz * 6 + 3, none⟩ = false ∧ w'.frozen? ⟨p.nb, kz * 6 + 4, none⟩ = false ∧ w'.frozen? ⟨p.nb, kz * 6 + 5, none⟩ = false) fun e w' h => ⟨h, HNX.out _ h.2⟩)
      have hsl := HW2.out.drew.slc
      have HKS : Hid (∀ X, Gr w2.drew X → ((((((X.setCell ⟨p.nb, kz * 6, none⟩ (.bool false)).setCell ⟨p.nb, kz * 6 + 1, none⟩ (.bool false)).setCell ⟨p.nb, kz * 6 + 2, none⟩ (.int .u64 0)).setCell ⟨p.nb, kz * 6 + 3, none⟩ (.int .i64 (-1))).setCell ⟨p.nb, kz * 6 + 4, none⟩ (.int .i64 (-1))).setCell ⟨p.nb, kz * 6 + 5, none⟩ (.int .i64 (-1))).cell? ⟨p.b, 1, none⟩ = some (.slice (some ⟨p.nb, 0, none⟩) t1.ns.length p.cap)) := Lib.hid (fun X hX => by have := ((HW2.out.drew.gr hX).node hkz1 nE ⟨by decide, by decide⟩).slc; rw [put_len] at this; exact this)
      have cap1' := HW2.out.cap1
      clear HNX pc0 pc1 pf0 pf1 HCL HCR
      go_upto_region 6 with fail
      go_cut [4] (fun s4 wx => s4 = .bool g ∧ Hid (Wk p wx (t1.put kz nE) ∧ Ws p w wx ∧ Pb p wx q u s))
      case first =>
        go_region_held3 (fun X => X.cell? ⟨p.b, 1, none⟩ = some (.slice (some ⟨p.nb, 0, none⟩) t1.ns.length p.cap))
          (first | (with_reducible exact hsl) | (with_reducible exact (HW2.out.drew.gr hg).slc) | (with_reducible exact HKS.out _ hg) | go_keep)
          (first | (go_at_call 54; refine HEM.out.mono ?_; rintro e' w' ⟨⟨rfl, hg⟩, ⟨n0, n1, n2, n3, n4, n5⟩, g0, g1, g2, g3, g4, g5⟩))
        have HF := Lib.hid (And.intro ((HW2.out.drew.gr hg).node hkz1 nE ⟨by decide, by decide⟩) (And.intro ((HS2.out.drew.trans (Ws.of_gr hg)).node (kz * 6) nE) (HPC.out.ws ((Ws.of_gr hg).node (kz * 6) nE))))
        clear n0 n1 n2 n3 n4 n5 g0 g1 g2 g3 g4 g5 hg HEM hsl HKS
        change Exit.then _ _ _ _ (setNode w' p.nb (kz * 6) nE)
        generalize setNode w' p.nb (kz * 6) nE = w8 at HF ⊢
        go_wp2_with fail
        go_meet
        case rel => exact ⟨rfl, HF⟩
      case rest =>
        obtain ⟨rfl, HR⟩ := hcut
        have HWf := Lib.hid HR.out.1
        have HSf := Lib.hid HR.out.2.1
        have HPf := Lib.hid HR.out.2.2
        clear HR HEM hsl HKS HPC HW2 HS2 HP2
        generalize wc = w9 at HWf HSf HPf ⊢
        rcases HEND.out with ⟨rfl, ht'⟩ | ⟨rfl, n, hfill⟩
        · have HT := Lib.hid ht'
          clear ht'
          go_wp2
          go_end0
          exact ⟨rfl, by rw [HT.out]; exact HWf.out, HSf.out⟩
        · have HFI := Lib.hid (fill_at HWf.out hfill)
          obtain ⟨pc0, pc1, -, -⟩ := HPf.out.cells
          clear hfill HEND
          go_wp2_with fail
          refine HFI.out.mono ?_
          rintro e' w10 ⟨rfl, hw10, hs10⟩
          have HF := Lib.hid (And.intro hw10 (HSf.out.trans hs10))
          clear HFI hw10 hs10 pc0 pc1
          go_wp2
          go_end0
          exact ⟨rfl, HF.out.1, HF.out.2⟩
    · have HC1 := Lib.hid (HCL.out _ HW1.out)
      have hne : (t.kid kz false == -1) = false := by rw [beq_eq_false_iff_ne]; exact hl
      have hne' : ¬ t.kid kz false = -1 := hl
      go_wp2_with fail
      refine (HC1.out).mono ?_
      rintro e' w' ⟨rfl, rfl⟩
      clear HC1
      have HC1 := Lib.hid (HCR.out _ HW1.out)
      rw [hr] at HC1
      go_wp2_with fail
      refine (HC1.out).mono ?_
      rintro e' w' ⟨rfl, rfl⟩
      clear HC1
      have HH := Lib.hid (hang_at HW1.out.drew HU.out hl' (t.side kz))
      rw [show t.hang (t.up kz) (t.side kz) (t.kid kz false) = t1 from ht1, HUZ.out, HSZ.out] at HH
      have HD : Hid (Pb p w1.drew q uz sz) := Lib.hid (HP1.out.gr (Gr.drew _ 1))
      have HC := Lib.hid (HCL.out _ HW1.out.drew)
      generalize t.kid kz false = cc at *
      go_wp2_with fail
      go_region_held3 (fun X => X.cell? ⟨q, 0, none⟩ = some (.int .i64 uz) ∧ X.cell? ⟨q, 1, none⟩ = some (.int .i64 (sI sz)))
        (first | exact ⟨HD.out.cells.1, HD.out.cells.2.1⟩ | exact ⟨(HD.out.ws hs2).cells.1, (HD.out.ws hs2).cells.2.1⟩ | go_keep)
        (first
          | (go_at_call 71; with_reducible refine HC.out.mono ?_; rintro e' w' ⟨rfl, rfl⟩)
          | (go_at_call 66; with_reducible refine HH.out.mono ?_; rintro e' w2 ⟨rfl, hw2, hs2⟩))
      have HW2 := Lib.hid hw2
      have HX2 : Hid (Ws p w1 w2) := Lib.hid ((Ws.refl p w1).drew.trans hs2)
      have HS2 := Lib.hid (HS1.out.trans HX2.out)
      have HP2 := Lib.hid (HP1.out.ws HX2.out)
      clear hw2 hs2 HX2 HD HC HH HW1 HS1 HP1
      obtain rfl : g = gone := hge.symm.trans HG.out
      obtain rfl : u = uz := hue.symm.trans HUZ.out
      obtain rfl : s = sz := hse.symm.trans HSZ.out
      clear hge hue hse ht1
      have HPC := Lib.hid (HP2.out.gr (Gr.drew _ 1))
      have HNX : Hid (∀ X, Gr w2.drew X → (X.cell? ⟨p.nb, kz * 6, none⟩ = some (.bool (t1.nd kz).inn) ∧ X.cell? ⟨p.nb, kz * 6 + 1, none⟩ = some (.bool (t1.nd kz).red) ∧ X.cell? ⟨p.nb, kz * 6 + 2, none⟩ = some (.int .u64 (t1.nd kz).v) ∧ X.cell? ⟨p.nb, kz * 6 + 3, none⟩ = some (.int .i64 (t1.nd kz).l) ∧ X.cell? ⟨p.nb, kz * 6 + 4, none⟩ = some (.int .i64 (t1.nd kz).r) ∧ X.cell? ⟨p.nb, kz * 6 + 5, none⟩ = some (.int .i64 (t1.nd kz).u)) ∧ X.frozen? ⟨p.nb, kz * 6, none⟩ = false ∧ X.frozen? ⟨p.nb, kz * 6 + 1, none⟩ = false ∧ X.frozen? ⟨p.nb, kz * 6 + 2, none⟩ = false ∧ X.frozen? ⟨p.nb, kz * 6 + 3, none⟩ = false ∧ X.frozen? ⟨p.nb, kz * 6 + 4, none⟩ = false ∧ X.frozen? ⟨p.nb, kz * 6 + 5, none⟩ = false) := Lib.hid (fun X hX =>
        have hx := HW2.out.drew.gr hX
        ⟨hx.nc hkz1, hx.frozen _, hx.frozen _, hx.frozen _, hx.frozen _, hx.frozen _, hx.frozen _⟩)
      generalize t1.nd kz = nz at HNX
      have HEM := Lib.hid ((empty_at w2.drew).mono (R' := fun e w' => (e = .returned (.agg #[.bool false, .bool false, .int .u64 0, .int .i64 (-1), .int .i64 (-1), .int .i64 (-1)]) ∧ Gr w2.drew w') ∧ (w'.cell? ⟨p.nb, kz * 6, none⟩ = some (.bool nz.inn) ∧ w'.cell? ⟨p.nb, kz * 6 + 1, none⟩ = some (.bool nz.red) ∧ w'.cell? ⟨p.nb, kz * 6 + 2, none⟩ = some (.int .u64 nz.v) ∧ w'.cell? ⟨p.nb, kz * 6 + 3, none⟩ = some (.int .i64 nz.l) ∧ w'.cell? ⟨p.nb, kz * 6 + 4, none⟩ = some (.int .i64 nz.r) ∧ w'.cell? ⟨p.nb, kz * 6 + 5, none⟩ = some (.int .i64 nz.u)) ∧ w'.frozen? ⟨p.nb, kz * 6, none⟩ = false ∧ w'.frozen? ⟨p.nb, kz * 6 + 1, none⟩ = false ∧ w'.frozen? ⟨p.nb, kz * 6 + 2, none⟩ = false ∧ w'.frozen? ⟨p.nb, kz * 6 + 3, none⟩ = false ∧ w'.frozen? ⟨p.nb, kz * 6 + 4, none⟩ = false ∧ w'.frozen? ⟨p.nb, kz * 6 + 5, none⟩ = false) fun e w' h => ⟨h, HNX.out _ h.2⟩)
      have hsl := HW2.out.drew.slc
      have HKS : Hid (∀ X, Gr w2.drew X → ((((((X.setCell ⟨p.nb, kz * 6, none⟩ (.bool false)).setCell ⟨p.nb, kz * 6 + 1, none⟩ (.bool false)).setCell ⟨p.nb, kz * 6 + 2, none⟩ (.int .u64 0)).setCell ⟨p.nb, kz * 6 + 3, none⟩ (.int .i64 (-1))).setCell ⟨p.nb, kz * 6 + 4, none⟩ (.int .i64 (-1))).setCell ⟨p.nb, kz * 6 + 5, none⟩ (.int .i64 (-1))).cell? ⟨p.b, 1, none⟩ = some (.slice (some ⟨p.nb, 0, none⟩) t1.ns.length p.cap)) := Lib.hid (fun X hX => by have := ((HW2.out.drew.gr hX).node hkz1 nE ⟨by decide, by decide⟩).slc; rw [put_len] at this; exact this)
      have cap1' := HW2.out.cap1
      clear HNX pc0 pc1 pf0 pf1 HCL HCR
      go_upto_region 6 with fail
      go_cut [4] (fun s4 wx => s4 = .bool g ∧ Hid (Wk p wx (t1.put kz nE) ∧ Ws p w wx ∧ Pb p wx q u s))
      case first =>
        go_region_held3 (fun X => X.cell? ⟨p.b, 1, none⟩ = some (.slice (some ⟨p.nb, 0, none⟩) t1.ns.length p.cap))
          (first | (with_reducible exact hsl) | (with_reducible exact (HW2.out.drew.gr hg).slc) | (with_reducible exact HKS.out _ hg) | go_keep)
          (first | (go_at_call 54; refine HEM.out.mono ?_; rintro e' w' ⟨⟨rfl, hg⟩, ⟨n0, n1, n2, n3, n4, n5⟩, g0, g1, g2, g3, g4, g5⟩))
        have HF := Lib.hid (And.intro ((HW2.out.drew.gr hg).node hkz1 nE ⟨by decide, by decide⟩) (And.intro ((HS2.out.drew.trans (Ws.of_gr hg)).node (kz * 6) nE) (HPC.out.ws ((Ws.of_gr hg).node (kz * 6) nE))))
        clear n0 n1 n2 n3 n4 n5 g0 g1 g2 g3 g4 g5 hg HEM hsl HKS
        change Exit.then _ _ _ _ (setNode w' p.nb (kz * 6) nE)
        generalize setNode w' p.nb (kz * 6) nE = w8 at HF ⊢
        go_wp2_with fail
        go_meet
        case rel => exact ⟨rfl, HF⟩
      case rest =>
        obtain ⟨rfl, HR⟩ := hcut
        have HWf := Lib.hid HR.out.1
        have HSf := Lib.hid HR.out.2.1
        have HPf := Lib.hid HR.out.2.2
        clear HR HEM hsl HKS HPC HW2 HS2 HP2
        generalize wc = w9 at HWf HSf HPf ⊢
        rcases HEND.out with ⟨rfl, ht'⟩ | ⟨rfl, n, hfill⟩
        · have HT := Lib.hid ht'
          clear ht'
          go_wp2
          go_end0
          exact ⟨rfl, by rw [HT.out]; exact HWf.out, HSf.out⟩
        · have HFI := Lib.hid (fill_at HWf.out hfill)
          obtain ⟨pc0, pc1, -, -⟩ := HPf.out.cells
          clear hfill HEND
          go_wp2_with fail
          refine HFI.out.mono ?_
          rintro e' w10 ⟨rfl, hw10, hs10⟩
          have HF := Lib.hid (And.intro hw10 (HSf.out.trans hs10))
          clear HFI hw10 hs10 pc0 pc1
          go_wp2
          go_end0
          exact ⟨rfl, HF.out.1, HF.out.2⟩
    · have HC1 := Lib.hid (HCL.out _ HW1.out)
      have hne : (t.kid kz false == -1) = false := by rw [beq_eq_false_iff_ne]; exact hl
      have hne' : ¬ t.kid kz false = -1 := hl
      have hne2 : (t.kid kz true == -1) = false := by rw [beq_eq_false_iff_ne]; exact hr
      have hne2' : ¬ t.kid kz true = -1 := hr
      have HRE := Lib.hid (replace_at HW1.out hm ho)
      rw [ht1, hge, hue, hse] at HRE
      have HC2 := Lib.hid (HCR.out _ HW1.out)
      generalize t.kid kz false = c1 at *
      generalize t.kid kz true = c2 at *
      go_wp2_with fail
      refine (HC1.out).mono ?_
      rintro e' w' ⟨rfl, rfl⟩
      go_wp2_with fail
      refine (HC2.out).mono ?_
      rintro e' w' ⟨rfl, rfl⟩
      clear HC1 HC2 hm ho ht1 hge hue hse
      go_wp2_with fail
      refine HRE.out.mono ?_
      rintro e' w2 ⟨rfl, hw2, hs2⟩
      have HW2 := Lib.hid hw2
      have HS2 := Lib.hid (HS1.out.trans hs2)
      have HP2 := Lib.hid (HP1.out.ws hs2)
      clear HRE hw2 hs2 HW1 HS1 HP1 pc0 pc1 pf0 pf1
      obtain ⟨pc0, pc1, pf0, pf1⟩ := HP2.out.cells
      have HP3 := Lib.hid (HP2.out.store u s)
      have HW3 := Lib.hid ((HW2.out.other (q := ⟨q, 0, none⟩) (v := .int .i64 u) (fun e => HP2.out.2.1 e.symm) (fun e => HP2.out.2.2 e.symm)).other (q := ⟨q, 1, none⟩) (v := .int .i64 (sI s)) (fun e => HP2.out.2.1 e.symm) (fun e => HP2.out.2.2 e.symm))
      have HS3 := Lib.hid ((HS2.out.set (q := ⟨q, 0, none⟩) (.inr (.inr HQ.out)) (.int .i64 u)).set (q := ⟨q, 1, none⟩) (.inr (.inr HQ.out)) (.int .i64 (sI s)))
      go_upto_region 6 with fail
      generalize (w2.setCell ⟨q, 0, none⟩ (.int .i64 u)).setCell ⟨q, 1, none⟩ (.int .i64 (sI s)) = w3 at HP3 HW3 HS3 ⊢
      clear HW2 HS2 HP2
      have HPC := Lib.hid (HP3.out.gr (Gr.drew _ 1))
      have HNX : Hid (∀ X, Gr w3.drew X → (X.cell? ⟨p.nb, kz * 6, none⟩ = some (.bool (t1.nd kz).inn) ∧ X.cell? ⟨p.nb, kz * 6 + 1, none⟩ = some (.bool (t1.nd kz).red) ∧ X.cell? ⟨p.nb, kz * 6 + 2, none⟩ = some (.int .u64 (t1.nd kz).v) ∧ X.cell? ⟨p.nb, kz * 6 + 3, none⟩ = some (.int .i64 (t1.nd kz).l) ∧ X.cell? ⟨p.nb, kz * 6 + 4, none⟩ = some (.int .i64 (t1.nd kz).r) ∧ X.cell? ⟨p.nb, kz * 6 + 5, none⟩ = some (.int .i64 (t1.nd kz).u)) ∧ X.frozen? ⟨p.nb, kz * 6, none⟩ = false ∧ X.frozen? ⟨p.nb, kz * 6 + 1, none⟩ = false ∧ X.frozen? ⟨p.nb, kz * 6 + 2, none⟩ = false ∧ X.frozen? ⟨p.nb, kz * 6 + 3, none⟩ = false ∧ X.frozen? ⟨p.nb, kz * 6 + 4, none⟩ = false ∧ X.frozen? ⟨p.nb, kz * 6 + 5, none⟩ = false) := Lib.hid (fun X hX =>
        have hx := HW3.out.drew.gr hX
        ⟨hx.nc hkz1, hx.frozen _, hx.frozen _, hx.frozen _, hx.frozen _, hx.frozen _, hx.frozen _⟩)
      generalize t1.nd kz = nz at HNX
      have HEM := Lib.hid ((empty_at w3.drew).mono (R' := fun e w' => (e = .returned (.agg #[.bool false, .bool false, .int .u64 0, .int .i64 (-1), .int .i64 (-1), .int .i64 (-1)]) ∧ Gr w3.drew w') ∧ (w'.cell? ⟨p.nb, kz * 6, none⟩ = some (.bool nz.inn) ∧ w'.cell? ⟨p.nb, kz * 6 + 1, none⟩ = some (.bool nz.red) ∧ w'.cell? ⟨p.nb, kz * 6 + 2, none⟩ = some (.int .u64 nz.v) ∧ w'.cell? ⟨p.nb, kz * 6 + 3, none⟩ = some (.int .i64 nz.l) ∧ w'.cell? ⟨p.nb, kz * 6 + 4, none⟩ = some (.int .i64 nz.r) ∧ w'.cell? ⟨p.nb, kz * 6 + 5, none⟩ = some (.int .i64 nz.u)) ∧ w'.frozen? ⟨p.nb, kz * 6, none⟩ = false ∧ w'.frozen? ⟨p.nb, kz * 6 + 1, none⟩ = false ∧ w'.frozen? ⟨p.nb, kz * 6 + 2, none⟩ = false ∧ w'.frozen? ⟨p.nb, kz * 6 + 3, none⟩ = false ∧ w'.frozen? ⟨p.nb, kz * 6 + 4, none⟩ = false ∧ w'.frozen? ⟨p.nb, kz * 6 + 5, none⟩ = false) fun e w' h => ⟨h, HNX.out _ h.2⟩)
      have hsl := HW3.out.drew.slc
      have HKS : Hid (∀ X, Gr w3.drew X → ((((((X.setCell ⟨p.nb, kz * 6, none⟩ (.bool false)).setCell ⟨p.nb, kz * 6 + 1, none⟩ (.bool false)).setCell ⟨p.nb, kz * 6 + 2, none⟩ (.int .u64 0)).setCell ⟨p.nb, kz * 6 + 3, none⟩ (.int .i64 (-1))).setCell ⟨p.nb, kz * 6 + 4, none⟩ (.int .i64 (-1))).setCell ⟨p.nb, kz * 6 + 5, none⟩ (.int .i64 (-1))).cell? ⟨p.b, 1, none⟩ = some (.slice (some ⟨p.nb, 0, none⟩) t1.ns.length p.cap)) := Lib.hid (fun X hX => by have := ((HW3.out.drew.gr hX).node hkz1 nE ⟨by decide, by decide⟩).slc; rw [put_len] at this; exact this)
      have cap1' := HW3.out.cap1
      clear HNX pc0 pc1 pf0 pf1 HCL HCR
      go_cut [4] (fun s4 wx => s4 = .bool g ∧ Hid (Wk p wx (t1.put kz nE) ∧ Ws p w wx ∧ Pb p wx q u s))
      case first =>
        go_region_held3 (fun X => X.cell? ⟨p.b, 1, none⟩ = some (.slice (some ⟨p.nb, 0, none⟩) t1.ns.length p.cap))
          (first | (with_reducible exact hsl) | (with_reducible exact (HW3.out.drew.gr hg).slc) | (with_reducible exact HKS.out _ hg) | go_keep)
          (first | (go_at_call 54; refine HEM.out.mono ?_; rintro e' w' ⟨⟨rfl, hg⟩, ⟨n0, n1, n2, n3, n4, n5⟩, g0, g1, g2, g3, g4, g5⟩))
        have HF := Lib.hid (And.intro ((HW3.out.drew.gr hg).node hkz1 nE ⟨by decide, by decide⟩) (And.intro ((HS3.out.drew.trans (Ws.of_gr hg)).node (kz * 6) nE) (HPC.out.ws ((Ws.of_gr hg).node (kz * 6) nE))))
        clear n0 n1 n2 n3 n4 n5 g0 g1 g2 g3 g4 g5 hg HEM hsl HKS
        change Exit.then _ _ _ _ (setNode w' p.nb (kz * 6) nE)
        generalize setNode w' p.nb (kz * 6) nE = w8 at HF ⊢
        go_wp2_with fail
        go_meet
        case rel => exact ⟨rfl, HF⟩
      case rest =>
        obtain ⟨rfl, HR⟩ := hcut
        have HWf := Lib.hid HR.out.1
        have HSf := Lib.hid HR.out.2.1
        have HPf := Lib.hid HR.out.2.2
        clear HR HEM hsl HKS HPC HW3 HS3 HP3
        generalize wc = w9 at HWf HSf HPf ⊢
        rcases HEND.out with ⟨rfl, ht'⟩ | ⟨rfl, n, hfill⟩
        · have HT := Lib.hid ht'
          clear ht'
          go_wp2
          go_end0
          exact ⟨rfl, by rw [HT.out]; exact HWf.out, HSf.out⟩
        · have HFI := Lib.hid (fill_at HWf.out hfill)
          obtain ⟨pc0, pc1, -, -⟩ := HPf.out.cells
          clear hfill HEND
          go_wp2_with fail
          refine HFI.out.mono ?_
          rintro e' w10 ⟨rfl, hw10, hs10⟩
          have HF := Lib.hid (And.intro hw10 (HSf.out.trans hs10))
          clear HFI hw10 hs10 pc0 pc1
          go_wp2
          go_end0
          exact ⟨rfl, HF.out.1, HF.out.2⟩
end Go.Proofs.Ytgjacmkedgbneaa
