/-
  Contracts of tree's empty, and of a work's replace.
-/
import Derived.Test.YtgjacmkedgbneaaTwG
import Derived.Test.YtgjacmkedgbneaaPlA
namespace Go.Proofs.Ytgjacmkedgbneaa
open Go.RowKit Go.Sort Wd Tn Ky Tr

theorem empty_at (w : World) : Calls Try.prog 54 #[] w fun e w' => e = .returned (.agg #[.bool false, .bool false, .int .u64 0, .int .i64 (-1), .int .i64 (-1), .int .i64 (-1)]) ∧ Gr w w' := by
  go_enter Try.func54, Try.ntmps54
  go_wp2
  exact bodyPost_ret (v := .agg #[.bool false, .bool false, .int .u64 0, .int .i64 (-1), .int .i64 (-1), .int .i64 (-1)]) (by simp [results, Try.results54, go_sem]) rfl ⟨rfl, Gr.alloc _ _⟩

theorem Pb.storeU {p : Wp} {w : World} {q : Nat} {u : Int} {s : Bool} (h : Pb p w q u s) (u' : Int) : Pb p (w.setCell ⟨q, 0, none⟩ (.int .i64 u')) q u' s := by
  obtain ⟨h1, h2⟩ := h
  refine ⟨?_, h2⟩
  simp only [World.setCell, Array.getElem?_modify, if_true, h1]
  rfl
theorem Pb.other {p : Wp} {w : World} {q : Nat} {u : Int} {s : Bool} (h : Pb p w q u s) {a : Addr} {v : Value} (hne : q ≠ a.block) : Pb p (w.setCell a v) q u s := ⟨(Below.heap_setCell _ _ _ _ hne).trans h.1, h.2⟩

set_option maxHeartbeats 4000000 in
set_option maxRecDepth 100000 in
theorem replace_at {p : Wp} {n : Nat} {w : World} {t : T} {z y : Int} (h : Wk p w t) (hm : Leftmost t n (t.kid z true) y) (ho : RepOk t z y) :
    Calls Try.prog 72 #[.pointer (some ⟨p.b, 0, none⟩), .int .i64 z] w fun e w' => e = .returned (.tuple #[.bool (t.nd y).red, .agg #[.int .i64 (if t.up y = z then y else t.up y), .int .i64 (sI (t.side y))]]) ∧ Wk p w' (rep5 t z y) ∧ Ws p w w' := by
  have mixed : Try.prog.follows .mixedOrders = true := by kernel_rfl
  have H0 := Lib.hid (And.intro hm ho)
  have cap2 := h.cap2
  have HP0 := Lib.hid (Pb.new h 0 false)
  have HW0 := Lib.hid (h.alloc (.cells #[.int .i64 0, .int .i64 (sI false)] 91))
  have HS0 := Lib.hid ((Ws.refl p w).alloc (.cells #[.int .i64 0, .int .i64 (sI false)] 91))
  rw [show sI false = 0 from rfl] at HP0 HW0 HS0
  have HC0 := Lib.hid (child_at HW0.out ho.hz true)
  rw [show sI true = 1 from rfl] at HC0
  obtain ⟨gone, hgone⟩ : ∃ g, (t.nd y).red = g := ⟨_, rfl⟩
  have HG := Lib.hid hgone
  obtain ⟨uy, huy⟩ : ∃ u, t.up y = u := ⟨_, rfl⟩
  have HUY := Lib.hid huy
  obtain ⟨sy, hsy⟩ : ∃ u, t.side y = u := ⟨_, rfl⟩
  have HSY := Lib.hid hsy
  rw [hgone, huy, hsy]
  obtain ⟨u', hu'⟩ : ∃ u, (if uy = z then y else uy) = u := ⟨_, rfl⟩
  have HU' := Lib.hid hu'
  rw [hu']
  clear h hm ho hgone huy hsy hu'
  go_enter Try.func72, Try.ntmps72
  go_wp2_with fail
  generalize hq : w.heap.size = q at HP0 ⊢
  generalize w.alloc (.cells #[.int .i64 0, .int .i64 0] 91) = w0 at HP0 HW0 HS0 HC0 ⊢
  have HQ := Lib.hid hq
  clear hq
  refine HC0.out.mono ?_
  rintro e' w' ⟨rfl, rfl⟩
  clear HC0
  go_wp2_with fail
  go_loopg [6] n (fun kk i wr => ∃ y1 : Int, i = .int .i64 y1 ∧ Hid (wr = w0 ∧ Leftmost t kk y1 y))
  case atStart => exact ⟨_, rfl, Lib.hid ⟨rfl, H0.out.1⟩⟩
  case round =>
    obtain ⟨y1, rfl, HR⟩ := hrel
    obtain ⟨rfl, hm⟩ := HR.out
    obtain ⟨hy, hway⟩ := hm.parts
    have HC := Lib.hid (child_at HW0.out hy false)
    rw [show sI false = 0 from rfl] at HC
    clear HR hm
    rcases hway with ⟨hl, rfl⟩ | ⟨hl, m, hn, hrest⟩
    · rw [hl] at HC
      obtain ⟨ky, rfl, hky⟩ := has_nat hy
      clear hl hy
      go_wp2_with fail
      refine (HC.out).mono ?_
      rintro e' w' ⟨rfl, rfl⟩
      clear HC
      have HPL := Lib.hid (fun X (hX : Wk p X t) => place_at hX H0.out.2.hy H0.out.2.hu)
      rw [HUY.out, HSY.out] at HPL
      have HWD := Lib.hid HW0.out.drew
      have HWA := Lib.hid (HW0.out.alloc (.cells #[.int .i64 0, .int .i64 0] 91)).drew
      have HSX : Hid (∀ X, Wk p X t → X.cell? ⟨p.b, 1, none⟩ = some (.slice (some ⟨p.nb, 0, none⟩) t.ns.length p.cap) ∧ X.cell? ⟨p.nb, ky * 6 + 1, none⟩ = some (.bool gone)) := Lib.hid (fun X hX => ⟨hX.slc, by rw [← HG.out]; exact hX.redc hky⟩)
      have HPZ : Hid (∀ X, Gr (wr.alloc (.cells #[.int .i64 0, .int .i64 0] 91)).drew X → Pb p X wr.heap.size 0 false) := Lib.hid (fun X hX => ((Pb.new HW0.out 0 false).gr (Gr.drew _ 1)).gr hX)
      have HPY : Hid (∀ X, Gr (wr.alloc (.cells #[.int .i64 0, .int .i64 0] 91)).drew X → X.cell? ⟨wr.heap.size, 0, none⟩ = some (.int .i64 0) ∧ X.cell? ⟨wr.heap.size, 1, none⟩ = some (.int .i64 0) ∧ X.frozen? ⟨wr.heap.size, 0, none⟩ = false ∧ X.frozen? ⟨wr.heap.size, 1, none⟩ = false) := Lib.hid (fun X hX => (HPZ.out X hX).cells)
      have HPLD := Lib.hid (HPL.out _ HWD.out)
      have HPLA := Lib.hid ((HPL.out _ HWA.out).mono (R' := fun e w' => (e = .returned (.agg #[.int .i64 uy, .int .i64 (sI sy)]) ∧ Gr (wr.alloc (.cells #[.int .i64 0, .int .i64 0] 91)).drew w') ∧ w'.cell? ⟨wr.heap.size, 0, none⟩ = some (.int .i64 0) ∧ w'.cell? ⟨wr.heap.size, 1, none⟩ = some (.int .i64 0) ∧ w'.frozen? ⟨wr.heap.size, 0, none⟩ = false ∧ w'.frozen? ⟨wr.heap.size, 1, none⟩ = false) fun e w' h => ⟨h, HPY.out _ h.2⟩)
      have cap1 := HW0.out.cap1
      have hc1 := (HSX.out _ HW0.out).1
      have hc2 := (HSX.out _ HW0.out).2
      go_upto_region 4 with fail
      go_cut [7, 8] (fun s7 s8 wx => ∃ q2 : Nat, s7 = .bool gone ∧ s8 = .pointer (some ⟨q2, 0, none⟩) ∧ Hid (Wk p wx t ∧ Ws p wr wx ∧ Pb p wx q2 uy sy ∧ wr.heap.size ≤ q2))
      case first =>
        go_region_held3 (fun X => X.cell? ⟨p.b, 1, none⟩ = some (.slice (some ⟨p.nb, 0, none⟩) t.ns.length p.cap) ∧ X.cell? ⟨p.nb, ky * 6 + 1, none⟩ = some (.bool gone))
          (first
            | exact HSX.out _ HWD.out
            | exact HSX.out _ HWA.out
            | exact HSX.out _ (HWD.out.gr hg1)
            | exact HSX.out _ (HWA.out.gr hg1)
            | exact HSX.out _ ((HWD.out.gr hg1).alloc _)
            | exact HSX.out _ (((HWA.out.gr hg1).other (fun e => (HPZ.out _ hg1).2.1 e.symm) (fun e => (HPZ.out _ hg1).2.2 e.symm)).other (fun e => (HPZ.out _ hg1).2.1 e.symm) (fun e => (HPZ.out _ hg1).2.2 e.symm))
            | go_keep)
          (first
            | (go_at_call 70; with_reducible refine HPLD.out.mono ?_; rintro e' w1 ⟨rfl, hg1⟩)
            | (go_at_call 70; with_reducible refine HPLA.out.mono ?_; rintro e' w1 ⟨⟨rfl, hg1⟩, z0, z1, z2, z3⟩))
        · have HF := Lib.hid (And.intro ((HWD.out.gr hg1).alloc (.cells #[.int .i64 uy, .int .i64 (sI sy)] 91)) (And.intro ((Ws.refl p wr).drew.trans (Ws.of_gr (hg1.trans (Gr.alloc _ (.cells #[.int .i64 uy, .int .i64 (sI sy)] 91))))) (And.intro (Pb.new (HWD.out.gr hg1) uy sy) (show wr.heap.size ≤ w1.heap.size from hg1.below.size))))
          go_wp2_with fail
          go_meet
          case rel => exact ⟨_, rfl, rfl, HF⟩
        · have HPW := Lib.hid (HPZ.out _ hg1)
          have HF := Lib.hid (And.intro (((HWA.out.gr hg1).other (q := ⟨wr.heap.size, 0, none⟩) (v := .int .i64 uy) (fun e => HPW.out.2.1 e.symm) (fun e => HPW.out.2.2 e.symm)).other (q := ⟨wr.heap.size, 1, none⟩) (v := .int .i64 (sI sy)) (fun e => HPW.out.2.1 e.symm) (fun e => HPW.out.2.2 e.symm))
            (And.intro (((((Ws.refl p wr).alloc _).drew.trans (Ws.of_gr hg1)).set (q := ⟨wr.heap.size, 0, none⟩) (.inr (.inr (Nat.le_refl _))) (.int .i64 uy)).set (q := ⟨wr.heap.size, 1, none⟩) (.inr (.inr (Nat.le_refl _))) (.int .i64 (sI sy))) (And.intro (HPW.out.store uy sy) (Nat.le_refl wr.heap.size))))
          go_wp2_with fail
          go_meet
          case rel => exact ⟨_, rfl, rfl, HF⟩
      case rest =>
        obtain ⟨q2, rfl, rfl, HR⟩ := hcut
        have HW1 := Lib.hid HR.out.1
        have HS1 := Lib.hid (HS0.out.trans HR.out.2.1)
        have HPQ1 := Lib.hid (HP0.out.ws HR.out.2.1)
        have HP1 := Lib.hid HR.out.2.2.1
        have HNE : Hid (q ≠ q2) := Lib.hid (by have := HP0.out.lt; have := HR.out.2.2.2; omega)
        have HQ2 : Hid (w.heap.size ≤ q2) := Lib.hid (Nat.le_trans HS0.out.size HR.out.2.2.2)
        clear HR HW0 HS0 HP0 HPL HPLD HPLA HWD HWA HSX HPZ HPY cap1 hc1 hc2
        generalize wc = w1 at HW1 HS1 HP1 HPQ1 ⊢
        obtain ⟨pc0, pc1, -, -⟩ := HP1.out.cells
        have HC := Lib.hid (child_at HW1.out.drew H0.out.2.hy true)
        rw [show sI true = 1 from rfl] at HC
        have HH := Lib.hid (hang_at HW1.out.drew H0.out.2.hu H0.out.2.hr sy)
        rw [HUY.out] at HH
        have E1 : Hid (t.hang uy sy (t.kid ky true) = rep1 t ky) := Lib.hid (by unfold rep1; rw [HUY.out, HSY.out])
        rw [E1.out] at HH
        generalize t.kid ky true = cc at HC HH
        have HD : Hid (Pb p w1.drew q2 uy sy) := Lib.hid (HP1.out.gr (Gr.drew _ 1))
        go_wp2_with fail
        go_region_held3 (fun X => X.cell? ⟨q2, 0, none⟩ = some (.int .i64 uy) ∧ X.cell? ⟨q2, 1, none⟩ = some (.int .i64 (sI sy)))
          (first | exact ⟨HD.out.cells.1, HD.out.cells.2.1⟩ | exact ⟨(HD.out.ws hs2).cells.1, (HD.out.ws hs2).cells.2.1⟩ | go_keep)
          (first
            | (go_at_call 71; with_reducible refine HC.out.mono ?_; rintro e' w' ⟨rfl, rfl⟩)
            | (go_at_call 66; with_reducible refine HH.out.mono ?_; rintro e' w2 ⟨rfl, hw2, hs2⟩))
        have HW2 := Lib.hid hw2
        have HX2 : Hid (Ws p w1 w2) := Lib.hid ((Ws.refl p w1).drew.trans hs2)
        have HS2 := Lib.hid (HS1.out.trans HX2.out)
        have HP2 := Lib.hid (HP1.out.ws HX2.out)
        have HPQ2 := Lib.hid (HPQ1.out.ws HX2.out)
        clear hw2 hs2 HX2 HD HC HH HW1 HS1 HP1 HPQ1 pc0 pc1
        have HPL := Lib.hid (place_at HW2.out ((has_len (rep1_len _ _)).2 H0.out.2.hz) H0.out.2.uz)
        go_wp2_with fail
        refine HPL.out.mono ?_
        rintro e' w3 ⟨rfl, hg3⟩
        have HH := Lib.hid (hang_at (HW2.out.gr hg3) H0.out.2.uz (y := ky) (.inr ((has_len (rep1_len _ _)).2 H0.out.2.hy)) ((rep1 t ky).side z))
        rw [show (rep1 t ky).hang ((rep1 t ky).up z) ((rep1 t ky).side z) ky = rep2 t z ky from rfl] at HH
        generalize (rep1 t ky).up z = uz at HH ⊢
        generalize (rep1 t ky).side z = sz at HH ⊢
        go_wp2_with fail
        refine HH.out.mono ?_
        rintro e' w4 ⟨rfl, hw4, hs4⟩
        have HW4 := Lib.hid hw4
        have HX4 : Hid (Ws p w2 w4) := Lib.hid ((Ws.of_gr hg3).trans hs4)
        have HS4 := Lib.hid (HS2.out.trans HX4.out)
        have HP4 := Lib.hid (HP2.out.ws HX4.out)
        have HPQ4 := Lib.hid (HPQ2.out.ws HX4.out)
        clear hw4 hs4 hg3 HX4 HH HPL HW2 HS2 HP2 HPQ2
        have HC := Lib.hid (child_at HW4.out ((has_len (rep2_len _ _ _)).2 H0.out.2.hz) false)
        have HH := Lib.hid (hang_at HW4.out (u := ky) (.inr ((has_len (rep2_len _ _ _)).2 H0.out.2.hy)) H0.out.2.kl false)
        rw [show (rep2 t z ky).hang ky false ((rep2 t z ky).kid z false) = rep3 t z ky from rfl] at HH
        rw [show sI false = 0 from rfl] at HC HH
        generalize (rep2 t z ky).kid z false = c2 at HC HH
        go_wp2_with fail
        refine (HC.out).mono ?_
        rintro e' w' ⟨rfl, rfl⟩
        go_wp2_with fail
        refine HH.out.mono ?_
        rintro e' w5 ⟨rfl, hw5, hs5⟩
        have HW5 := Lib.hid hw5
        have HS5 := Lib.hid (HS4.out.trans hs5)
        have HP5 := Lib.hid (HP4.out.ws hs5)
        have HPQ5 := Lib.hid (HPQ4.out.ws hs5)
        clear hw5 hs5 HC HH HW4 HS4 HP4 HPQ4
        have HC := Lib.hid (child_at HW5.out ((has_len (rep3_len _ _ _)).2 H0.out.2.hz) true)
        have HH := Lib.hid (hang_at HW5.out (u := ky) (.inr ((has_len (rep3_len _ _ _)).2 H0.out.2.hy)) H0.out.2.kr true)
        rw [show (rep3 t z ky).hang ky true ((rep3 t z ky).kid z true) = rep4 t z ky from rfl] at HH
        rw [show sI true = 1 from rfl] at HC HH
        generalize (rep3 t z ky).kid z true = c3 at HC HH
        go_wp2_with fail
        refine (HC.out).mono ?_
        rintro e' w' ⟨rfl, rfl⟩
        go_wp2_with fail
        refine HH.out.mono ?_
        rintro e' w6 ⟨rfl, hw6, hs6⟩
        have HW6 := Lib.hid hw6
        have HS6 := Lib.hid (HS5.out.trans hs6)
        have HP6 := Lib.hid (HP5.out.ws hs6)
        have HPQ6 := Lib.hid (HPQ5.out.ws hs6)
        clear hw6 hs6 HC HH HW5 HS5 HP5 HPQ5
        obtain ⟨kz, hkz0, hkz1⟩ := has_nat H0.out.2.hz
        subst hkz0
        have L4 := rep4_len t kz ky
        have hkz : kz < (rep4 t kz ky).ns.length := by omega
        have hky4 : ky < (rep4 t kz ky).ns.length := by omega
        have hsl := HW6.out.slc
        have cap1 := HW6.out.cap1
        have c1 := HW6.out.redc hkz
        have c2 := HW6.out.redc hky4
        have f2 := HW6.out.frozen (ky * 6 + 1)
        have HW7 := Lib.hid (HW6.out.paint hky4 ((rep4 t kz ky).nd kz).red).drew
        have HX7 := Lib.hid ((Ws.refl p w6).set (q := ⟨p.nb, ky * 6 + 1, none⟩) (.inr (.inl rfl)) (.bool ((rep4 t kz ky).nd kz).red)).drew
        rw [show (rep4 t kz ky).paint ky ((rep4 t kz ky).nd kz).red = rep5 t kz ky from rfl] at HW7
        generalize ((rep4 t kz ky).nd kz).red = rz at c1 HW7 HX7
        generalize ((rep4 t kz ky).nd ky).red = r2 at c2
        clear L4
        go_wp2_with fail
        go_region
        have HS7 := Lib.hid (HS6.out.trans HX7.out)
        have HP7 := Lib.hid (HP6.out.ws HX7.out)
        have HPQ7 := Lib.hid (HPQ6.out.ws HX7.out)
        clear HX7 HS6 HP6 HPQ6 HW6 hsl cap1 c1 c2 f2 hkz hky4
        generalize (w6.setCell ⟨p.nb, ky * 6 + 1, none⟩ (.bool rz)).drew = w7 at HW7 HS7 HP7 HPQ7 ⊢
        obtain ⟨pc0, pc1, pf0, pf1⟩ := HP7.out.cells
        by_cases huz : uy = kz
        · obtain rfl : u' = ky := by rw [← HU'.out, if_pos huz]
          have huz2 : (uy == (kz : Int)) = true := by rw [beq_iff_eq]; exact huz
          have HNQ := Lib.hid (show q2 ≠ q from fun e => HNE.out e.symm)
          have HP8 := Lib.hid (HP7.out.storeU ky)
          have HPQ8 := Lib.hid (HPQ7.out.other (a := ⟨q2, 0, none⟩) (v := .int .i64 ky) HNE.out)
          have HW8 := Lib.hid (HW7.out.other (q := ⟨q2, 0, none⟩) (v := .int .i64 ky) (fun e => HP7.out.2.1 e.symm) (fun e => HP7.out.2.2 e.symm))
          have HS8 := Lib.hid (HS7.out.set (q := ⟨q2, 0, none⟩) (.inr (.inr HQ2.out)) (.int .i64 ky))
          clear huz
          go_upto_region 12 with fail
          generalize w7.setCell ⟨q2, 0, none⟩ (.int .i64 ky) = w8 at HP8 HPQ8 HW8 HS8 ⊢
          clear pc0 pc1 pf0 pf1 HP7 HPQ7 HW7 HS7
          obtain ⟨pc0, pc1, pf0, pf1⟩ := HP8.out.cells
          obtain ⟨qc0, qc1, qf0, qf1⟩ := HPQ8.out.cells
          have HPF := Lib.hid (HPQ8.out.store ky sy)
          have HWF := Lib.hid ((HW8.out.other (q := ⟨q, 0, none⟩) (v := .int .i64 ky) (fun e => HPQ8.out.2.1 e.symm) (fun e => HPQ8.out.2.2 e.symm)).other (q := ⟨q, 1, none⟩) (v := .int .i64 (sI sy)) (fun e => HPQ8.out.2.1 e.symm) (fun e => HPQ8.out.2.2 e.symm)).drew
          have HSF := Lib.hid ((HS8.out.set (q := ⟨q, 0, none⟩) (.inr (.inr (by have := HQ.out; show w.heap.size ≤ q; omega))) (.int .i64 ky)).set (q := ⟨q, 1, none⟩) (.inr (.inr (by have := HQ.out; show w.heap.size ≤ q; omega))) (.int .i64 (sI sy))).drew
          go_wp2_with fail
          go_region
          go_wp2_with fail
          obtain ⟨g0, g1, -, -⟩ := HPF.out.cells
          refine bodyPost_ret (v := .tuple #[.bool gone, .agg #[.int .i64 ky, .int .i64 (sI sy)]]) ?_ rfl ⟨rfl, HWF.out, HSF.out⟩
          simp [results, Try.results72, go_sem, g0, g1]
        · obtain rfl : u' = uy := by rw [← HU'.out, if_neg huz]
          have huz2 : (u' == (kz : Int)) = false := by rw [beq_eq_false_iff_ne]; exact huz
          obtain ⟨qc0, qc1, qf0, qf1⟩ := HPQ7.out.cells
          have HPF := Lib.hid (HPQ7.out.store u' sy)
          have HWF := Lib.hid ((HW7.out.other (q := ⟨q, 0, none⟩) (v := .int .i64 u') (fun e => HPQ7.out.2.1 e.symm) (fun e => HPQ7.out.2.2 e.symm)).other (q := ⟨q, 1, none⟩) (v := .int .i64 (sI sy)) (fun e => HPQ7.out.2.1 e.symm) (fun e => HPQ7.out.2.2 e.symm)).drew
          have HSF := Lib.hid ((HS7.out.set (q := ⟨q, 0, none⟩) (.inr (.inr (by have := HQ.out; show w.heap.size ≤ q; omega))) (.int .i64 u')).set (q := ⟨q, 1, none⟩) (.inr (.inr (by have := HQ.out; show w.heap.size ≤ q; omega))) (.int .i64 (sI sy))).drew
          go_wp2_with fail
          go_region
          go_wp2_with fail
          obtain ⟨g0, g1, -, -⟩ := HPF.out.cells
          refine bodyPost_ret (v := .tuple #[.bool gone, .agg #[.int .i64 u', .int .i64 (sI sy)]]) ?_ rfl ⟨rfl, HWF.out, HSF.out⟩
          simp [results, Try.results72, go_sem, g0, g1]
    · have HN := Lib.hid (And.intro hn hrest)
      have hne : (t.kid y1 false == -1) = false := by rw [beq_eq_false_iff_ne]; exact hl
      generalize t.kid y1 false = y2 at HC HN hl hne
      clear hn hrest hy
      go_wp2_with fail
      refine (HC.out).mono ?_
      rintro e' w' ⟨rfl, rfl⟩
      go_wp2_with fail
      refine (HC.out).mono ?_
      rintro e' w' ⟨rfl, rfl⟩
      go_wp2
      go_roundg m
      case measure => have := HN.out.1; omega
      case rel => exact ⟨_, rfl, Lib.hid ⟨rfl, HN.out.2⟩⟩
end Go.Proofs.Ytgjacmkedgbneaa
