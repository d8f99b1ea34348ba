/-
  The contract of turnspitref09's filled, over what filling makes of a tree. (Written by tools/genfill.py.)
-/
import Derived.Test.YtgjacmkedgbneaaTyG
import Derived.Test.YtgjacmkedgbneaaPlA
import Derived.Deep.LoopGhost
namespace Go.Proofs.Ytgjacmkedgbneaa
open Go.RowKit Go.Sort Ky Wd Tn Tr

theorem Tr.Fill.len {n : Nat} {t t' : T} {u : Int} {s : Bool} (h : Fill n t u s t') : t'.ns.length = t.ns.length := by
  have far : ∀ {t t' : T} {p : Int} {s : Bool}, SetFar t p s t' → t'.ns.length = t.ns.length := by
    rintro t t' p s ⟨v, f, -, -, -, -, -, -, rfl⟩
    rw [turn_len, paint_len, paint_len, paint_len]
  induction h with
  | root n t s h0 =>
    split
    · rfl
    · exact paint_len _ _ _
  | redp n t u y s hu ey hy ry => exact paint_len _ _ _
  | turn n t t' u v s hu hk rk ev hv rv ht r2 r1 rest ih => rw [ih, turn_len, paint_len, paint_len]
  | settle n t t' u v s hu hk rk ev hv rv ol or rr hs =>
    obtain ⟨v, f, -, -, -, -, -, ⟨-, h⟩ | ⟨-, c, -, -, -, h⟩⟩ := hs
    · exact far h
    · rw [far h, turn_len, paint_len, paint_len]
  | up n t t' u v s hu hk rk ev hv rv ol or rr hp rest ih => rw [ih, paint_len]
/-- The near child and the far one. -/
theorem near_far {t : T} {v : Int} {s : Bool} (ol : t.ok (t.kid v false)) (or : t.ok (t.kid v true)) : t.ok (t.kid v s) ∧ t.ok (t.kid v (!s)) := by
  cases s
  · exact ⟨ol, or⟩
  · exact ⟨or, ol⟩
theorem near_red {t : T} {v : Int} {s : Bool} : (t.redB (t.kid v false) || t.redB (t.kid v true)) = (t.redB (t.kid v s) || t.redB (t.kid v (!s))) := by
  cases s
  · rfl
  · exact Bool.or_comm _ _
/-- The parts of filling, once the color of the node on the other side is settled, by the near child's color and the far one's. -/
theorem fillV_parts {m : Nat} {t t' : T} {u v : Int} {s : Bool} (h : FillV m t u v s t') :
    t.has u ∧ t.kid u (!s) = v ∧ t.has v ∧ t.ok (t.kid v s) ∧ t.ok (t.kid v (!s)) ∧
    ((t.redB (t.kid v (!s)) = true ∧ SetFar t u s t') ∨
     (t.redB (t.kid v (!s)) = false ∧ t.redB (t.kid v s) = true ∧ t.has (t.kid v s) ∧ TurnOk ((t.paint (t.kid v s) false).paint v true) v (!s) ∧ SetFar (((t.paint (t.kid v s) false).paint v true).turn v (!s)) u s t') ∨
     (t.redB (t.kid v (!s)) = false ∧ t.redB (t.kid v s) = false ∧ 0 < m ∧ (t.paint v true).ok ((t.paint v true).up u) ∧ Fill (m - 1) (t.paint v true) ((t.paint v true).up u) ((t.paint v true).side u) t')) := by
  obtain ⟨hu, ev, hv, ol, or, h⟩ := h
  refine ⟨hu, ev, hv, (near_far ol or).1, (near_far ol or).2, ?_⟩
  rw [near_red (s := s)] at h
  rcases h with ⟨hr, hs⟩ | ⟨hr, h0, hp, rest⟩
  · obtain ⟨v', f, -, e1, -, e2, -, hs⟩ := hs
    rw [ev] at e1
    subst e1 e2
    rcases hs with ⟨hf, hs⟩ | ⟨hf, c, ec, hc, ht, hs⟩
    · exact .inl ⟨hf, hs⟩
    · subst ec
      rw [hf, Bool.or_false] at hr
      exact .inr (.inl ⟨hf, hr, hc, ht, hs⟩)
  · rw [Bool.or_eq_false_iff] at hr
    exact .inr (.inr ⟨hr.2, hr.1, h0, hp, rest⟩)

set_option maxHeartbeats 16000000 in
set_option maxRecDepth 100000 in
theorem rfilled_at {W : World} {v : Value} {t t' : T} {p : Int} {s : Bool} {n : Nat} (hN : Nds W v t.ns) (hl : t.ns.length ≤ 1000) (hm : Fill n t p s t') :
    Calls Try.prog 45 #[.agg #[.int .i64 t.root, v], .int .i64 p, .int .i64 (sI s)] W (Rt W v t') := by
  have HB := Lib.hid (Bx.start hN)
  have HM0 := Lib.hid hm
  have HL0 : Hid (t'.ns.length = t.ns.length) := Lib.hid hm.len
  obtain ⟨a, cap, rfl, -, -⟩ := hN.len
  clear hN hm
  go_enter Try.func45, Try.ntmps45
  go_upto_region 1 with fail
  generalize (W.alloc (.cells #[.int .i64 t.root, .slice a t.ns.length cap] 24)).alloc (.cells #[.int .i64 0, .slice none 0 0] 24) = w1 at HB ⊢
  go_loopg [1, 2] n (fun k p1 s1 wr => ∃ (t1 : T) (v1 : Value) (p2 : Int) (s2 : Bool), p1 = .int .i64 p2 ∧ s1 = .int .i64 (sI s2) ∧ Hid (Bx W wr (.slice a t.ns.length cap) t1 v1 ∧ t1.ns.length = t.ns.length ∧ Fill k t1 p2 s2 t'))
  case atStart => exact ⟨t, _, p, s, rfl, rfl, Lib.hid ⟨HB.out, rfl, HM0.out⟩⟩
  case round =>
    clear HB HM0
    obtain ⟨t1, v1, p, s, rfl, rfl, HR⟩ := hrel
    obtain ⟨hbx, hln, hm⟩ := HR.out
    have HB := Lib.hid hbx
    have HLN := Lib.hid hln
    have hl1 : t1.ns.length ≤ 1000 := by rw [hln]; exact hl
    obtain ⟨a1, cap1, rfl, -, -⟩ := hbx.nd.len
    have hsub := sI_sub s
    clear HR hbx hln
    rcases Fill.parts hm with ⟨rfl, h0, ht'⟩ | ⟨hu, hk, rk, ht'⟩ | ⟨hu, hk, rk, hv, hway⟩
    · have H0 := Lib.hid h0
      have HT := Lib.hid ht'
      clear h0 ht' hm
      go_wp2_with fail
      go_quiet (fail)
      have HB1 := Lib.hid (HB.out.gr (Gr.drew wr nq))
      clear HB
      generalize wr.drewN nq = w2 at HB1 ⊢
      obtain ⟨x0, x1, x2, x3⟩ := HB1.out.tb.all
      by_cases hr : t1.root = -1
      · rw [if_pos hr] at HT
        have hte := HT.out
        subst hte
        rw [hr] at x0
        have HRP := Lib.hid (HB1.out.s.calls_rt (rpaint_none HB1.out.nd false))
        have HRR := Lib.hid hr
        rw [hr] at HRP
        clear hr
        go_wp2_with fail
        refine HRP.out.mono ?_
        rintro e' wq0 ⟨vq0, rfl, sq0⟩
        obtain ⟨aq0, cq0, rfl, -, -⟩ := sq0.nd.len
        have SQ0 := Lib.hid sq0
        clear sq0 HRP
        have HF := Lib.hid (HB1.out.fst SQ0.out (HL0.out.trans HLN.out.symm))
        obtain ⟨y0, y1, y2, y3⟩ := HB1.out.fstc SQ0.out
        clear x0 x1 x2 x3  HB1
        go_wp2
        obtain ⟨z0, z1, -, -⟩ := HF.out.rb.all
        exact bodyPost_ret (v := .agg #[.int .i64 t'.root, .slice aq0 t'.ns.length cq0]) (by simp [results, Try.results45, go_sem, z0, z1]) rfl ⟨_, rfl, HF.out.nd, HF.out.bl, HF.out.dj⟩
      · rw [if_neg hr] at HT
        have HH : Hid (t1.has t1.root) := Lib.hid (H0.out.resolve_left hr)
        clear hr
        go_wp2_with fail
        refine (HB1.out.s.paint hl1 HH.out false).mono ?_
        rintro e' wq0 ⟨vq0, rfl, sq0⟩
        rw [← HT.out] at sq0 ⊢
        obtain ⟨aq0, cq0, rfl, -, -⟩ := sq0.nd.len
        have SQ0 := Lib.hid sq0
        clear sq0
        have HF := Lib.hid (HB1.out.fst SQ0.out (HL0.out.trans HLN.out.symm))
        obtain ⟨y0, y1, y2, y3⟩ := HB1.out.fstc SQ0.out
        clear x0 x1 x2 x3  HB1
        go_wp2
        obtain ⟨z0, z1, -, -⟩ := HF.out.rb.all
        exact bodyPost_ret (v := .agg #[.int .i64 t'.root, .slice aq0 t'.ns.length cq0]) (by simp [results, Try.results45, go_sem, z0, z1]) rfl ⟨_, rfl, HF.out.nd, HF.out.bl, HF.out.dj⟩
    · obtain ⟨kp, rfl, hkp⟩ := has_nat hu
      obtain ⟨y, ey⟩ : ∃ y, t1.kid kp s = y := ⟨_, rfl⟩
      rw [ey] at hk rk ht'
      have HX := Lib.hid hu
      have EY := Lib.hid ey
      have HY := Lib.hid hk
      have HOK : Hid (t1.ok y) := Lib.hid (.inr hk)
      have HRED := Lib.hid rk
      have HT := Lib.hid ht'
      clear hu ey hk rk ht' hm
      obtain ⟨x0, x1, x2, x3⟩ := HB.out.tb.all
      have HKD : Hid (Calls Try.prog 36 #[.agg #[.int .i64 t1.root, .slice a1 t1.ns.length cap1], .int .i64 kp, .int .i64 (sI s)] wr.drew fun e w' => e = .returned (.int .i64 y) ∧ Gr wr.drew w') := Lib.hid (by
        have h1 := rkid_at (W := wr.drew) (v := .slice a1 t1.ns.length cap1) (t := t1) HB.out.nd HX.out s
        rw [EY.out] at h1
        exact h1)
      have HG1 : Hid (∀ X, Gr wr.drew X → Bx W X (.slice a t.ns.length cap) t1 (.slice a1 t1.ns.length cap1)) := Lib.hid (fun X hX => HB.out.gr ((Gr.drew wr 1).trans hX))
      have HGC : Hid (∀ X, Gr wr.drew X → X.cell? ⟨W.heap.size, 0, none⟩ = some (.int .i64 t1.root) ∧ X.cell? ⟨W.heap.size, 1, none⟩ = some (.slice a1 t1.ns.length cap1)) := Lib.hid (fun X hX => ⟨(HG1.out X hX).tb.all.1, (HG1.out X hX).tb.all.2.1⟩)
      have HRD : Hid (∀ X, Gr wr.drew X → Calls Try.prog 47 #[.agg #[.int .i64 t1.root, .slice a1 t1.ns.length cap1], .int .i64 y] X fun e w' => e = .returned (.bool true) ∧ Gr X w') := Lib.hid (fun X hX => by
        have h1 := rred_at (HG1.out X hX).nd HOK.out
        rw [HRED.out] at h1
        exact h1)
      have hp0 : (0 : Int) ≤ kp := by omega
      clear HB
      go_wp2_with fail
      go_region_law (first
        | (go_simp; go_at_call 36; refine HKD.out.mono ?_; rintro e' w4 ⟨rfl, hg4⟩; obtain ⟨z0, z1⟩ := HGC.out _ hg4)
        | (go_simp; go_at_call 47; refine (HRD.out _ hg4).mono ?_; rintro e' w5 ⟨rfl, hg5⟩))
      all_goals
        have HB := Lib.hid (HG1.out w5 (hg4.trans hg5))
        clear x0 x1 x2 x3 z0 z1 HKD HG1 HGC HRD hg4 hg5
        obtain ⟨x0, x1, x2, x3⟩ := HB.out.tb.all
        have hp1 : ¬ (kp : Int) < 0 := by omega
        have HKD : Hid (Calls Try.prog 36 #[.agg #[.int .i64 t1.root, .slice a1 t1.ns.length cap1], .int .i64 kp, .int .i64 (sI s)] w5.drew fun e w' => e = .returned (.int .i64 y) ∧ Gr w5.drew w') := Lib.hid (by
          have h1 := rkid_at (W := w5.drew) (v := .slice a1 t1.ns.length cap1) (t := t1) HB.out.nd HX.out s
          rw [EY.out] at h1
          exact h1)
        have HG1 : Hid (∀ X, Gr w5.drew X → Bx W X (.slice a t.ns.length cap) t1 (.slice a1 t1.ns.length cap1)) := Lib.hid (fun X hX => HB.out.gr ((Gr.drew w5 1).trans hX))
        have HGC : Hid (∀ X, Gr w5.drew X → X.cell? ⟨W.heap.size, 0, none⟩ = some (.int .i64 t1.root) ∧ X.cell? ⟨W.heap.size, 1, none⟩ = some (.slice a1 t1.ns.length cap1)) := Lib.hid (fun X hX => ⟨(HG1.out X hX).tb.all.1, (HG1.out X hX).tb.all.2.1⟩)
        have HPA : Hid (∀ X, Gr w5.drew X → Calls Try.prog 44 #[.agg #[.int .i64 t1.root, .slice a1 t1.ns.length cap1], .int .i64 y, .bool false] X (Rs X (.slice a1 t1.ns.length cap1) t')) := Lib.hid (fun X hX => by
          have h1 := (HG1.out X hX).s.paint hl1 HY.out false
          rw [← HT.out] at h1
          exact h1)
        have HFX : Hid (∀ X Y aq cq, Gr w5.drew X → St X (.slice a1 t1.ns.length cap1) t' Y (.slice aq t'.ns.length cq) → Fx W ((Y.setCell ⟨W.heap.size + 1, 0, none⟩ (.int .i64 t'.root)).setCell ⟨W.heap.size + 1, 1, none⟩ (.slice aq t'.ns.length cq)) (.slice a t.ns.length cap) t' (.slice aq t'.ns.length cq)) := Lib.hid (fun X Y aq cq hX hs => (HG1.out X hX).fst hs (HL0.out.trans HLN.out.symm))
        have HFC : Hid (∀ X Y aq cq, Gr w5.drew X → St X (.slice a1 t1.ns.length cap1) t' Y (.slice aq t'.ns.length cq) → Y.cell? ⟨W.heap.size + 1, 0, none⟩ = some (.int .i64 0) ∧ Y.cell? ⟨W.heap.size + 1, 1, none⟩ = some (.slice none 0 0) ∧ Y.frozen? ⟨W.heap.size + 1, 0, none⟩ = false ∧ Y.frozen? ⟨W.heap.size + 1, 1, none⟩ = false) := Lib.hid (fun X Y aq cq hX hs => (HG1.out X hX).fstc hs)
        clear HB
        go_wp2_with fail
        go_region_law (first
          | (go_simp; go_at_call 36; refine HKD.out.mono ?_; rintro e' w6 ⟨rfl, hg6⟩; obtain ⟨z0, z1⟩ := HGC.out _ hg6)
          | (go_simp; go_at_call 44; refine (HPA.out _ hg6).mono ?_; rintro e' wq0 ⟨vq0, rfl, sq0⟩; obtain ⟨aq0, cq0, rfl, -, -⟩ := sq0.nd.len; obtain ⟨y0, y1, y2, y3⟩ := HFC.out _ _ _ _ hg6 sq0))
        all_goals
          have HF := Lib.hid (HFX.out _ _ _ _ hg6 sq0)
          clear x0 x1 x2 x3 z0 z1 y0 y1 y2 y3 HKD HG1 HGC HPA HFX HFC hg6 sq0
          go_wp2
          obtain ⟨z0, z1, -, -⟩ := HF.out.rb.all
          exact bodyPost_ret (v := .agg #[.int .i64 t'.root, .slice aq0 t'.ns.length cq0]) (by simp [results, Try.results45, go_sem, z0, z1]) rfl ⟨_, rfl, HF.out.nd, HF.out.bl, HF.out.dj⟩
    · obtain ⟨kp, rfl, hkp⟩ := has_nat hu
      obtain ⟨y, ey⟩ : ∃ y, t1.kid kp s = y := ⟨_, rfl⟩
      obtain ⟨q, eq⟩ : ∃ q, t1.kid kp (!s) = q := ⟨_, rfl⟩
      rw [ey] at hk rk
      rw [eq] at hv hway
      have HX := Lib.hid hu
      have EY := Lib.hid ey
      have EQ := Lib.hid eq
      have HOK := Lib.hid hk
      have HRED := Lib.hid rk
      have HV := Lib.hid hv
      have HWAY := Lib.hid hway
      clear hu ey eq hk rk hv hway hm
      obtain ⟨x0, x1, x2, x3⟩ := HB.out.tb.all
      have HKD : Hid (Calls Try.prog 36 #[.agg #[.int .i64 t1.root, .slice a1 t1.ns.length cap1], .int .i64 kp, .int .i64 (sI s)] wr.drew fun e w' => e = .returned (.int .i64 y) ∧ Gr wr.drew w') := Lib.hid (by
        have h1 := rkid_at (W := wr.drew) (v := .slice a1 t1.ns.length cap1) (t := t1) HB.out.nd HX.out s
        rw [EY.out] at h1
        exact h1)
      have HG1 : Hid (∀ X, Gr wr.drew X → Bx W X (.slice a t.ns.length cap) t1 (.slice a1 t1.ns.length cap1)) := Lib.hid (fun X hX => HB.out.gr ((Gr.drew wr 1).trans hX))
      have HGC : Hid (∀ X, Gr wr.drew X → X.cell? ⟨W.heap.size, 0, none⟩ = some (.int .i64 t1.root) ∧ X.cell? ⟨W.heap.size, 1, none⟩ = some (.slice a1 t1.ns.length cap1)) := Lib.hid (fun X hX => ⟨(HG1.out X hX).tb.all.1, (HG1.out X hX).tb.all.2.1⟩)
      have HRD : Hid (∀ X, Gr wr.drew X → Calls Try.prog 47 #[.agg #[.int .i64 t1.root, .slice a1 t1.ns.length cap1], .int .i64 y] X fun e w' => e = .returned (.bool false) ∧ Gr X w') := Lib.hid (fun X hX => by
        have h1 := rred_at (HG1.out X hX).nd HOK.out
        rw [HRED.out] at h1
        exact h1)
      have hp0 : (0 : Int) ≤ kp := by omega
      clear HB
      go_wp2_with fail
      go_region_law (first
        | (go_simp; go_at_call 36; refine HKD.out.mono ?_; rintro e' w4 ⟨rfl, hg4⟩; obtain ⟨z0, z1⟩ := HGC.out _ hg4)
        | (go_simp; go_at_call 47; refine (HRD.out _ hg4).mono ?_; rintro e' w5 ⟨rfl, hg5⟩))
      all_goals
        have HB := Lib.hid (HG1.out w5 (hg4.trans hg5))
        clear x0 x1 x2 x3 z0 z1 HKD HG1 HGC HRD hg4 hg5
        obtain ⟨x0, x1, x2, x3⟩ := HB.out.tb.all
        go_wp2_with fail
        refine (rkid_at HB.out.nd HX.out (!s)).mono ?_
        rintro e' w6 ⟨rfl, hgg⟩
        rw [EQ.out]
        have HB1 := Lib.hid (HB.out.gr hgg)
        clear x0 x1 x2 x3 hgg HB
        obtain ⟨x0, x1, x2, x3⟩ := HB1.out.tb.all
        go_wp2_with fail
        refine (rred_at HB1.out.nd (.inr HV.out)).mono ?_
        rintro e' w7 ⟨rfl, hgg⟩
        have HB2 := Lib.hid (HB1.out.gr hgg)
        clear x0 x1 x2 x3 hgg HB1
        rcases HWAY.out with ⟨rv, ht, m, hmn, hfv⟩ | ⟨rv, hfv⟩
        · rw [rv]
          have HT0 := Lib.hid ht
          obtain ⟨t2, e2⟩ : ∃ t2, t1.paint q false = t2 := ⟨_, rfl⟩
          obtain ⟨t3, e3⟩ : ∃ t3, t2.paint kp true = t3 := ⟨_, rfl⟩
          obtain ⟨t4, e4⟩ : ∃ t4, t3.turn kp s = t4 := ⟨_, rfl⟩
          rw [e2, e3, e4] at hfv
          rw [e2, e3] at HT0
          have L2 : Hid (t2.ns.length = t1.ns.length ∧ t3.ns.length = t1.ns.length ∧ t4.ns.length = t1.ns.length) := Lib.hid (by rw [← e4, turn_len, ← e3, paint_len, ← e2, paint_len]; exact ⟨rfl, rfl, rfl⟩)
          have E2 := Lib.hid (And.intro e2 (And.intro e3 e4))
          obtain ⟨q2, eq2⟩ : ∃ q2, t4.kid kp (!s) = q2 := ⟨_, rfl⟩
          rw [eq2] at hfv
          have EQ2 := Lib.hid eq2
          have HFV := Lib.hid hfv
          have HMN := Lib.hid hmn
          clear rv ht e2 e3 e4 eq2 hfv hmn HWAY
          obtain ⟨x0, x1, x2, x3⟩ := HB2.out.tb.all
          go_wp2_with fail
          refine (HB2.out.s.paint hl1 HV.out false).mono ?_
          rintro e' wq0 ⟨vq0, rfl, sq0⟩
          rw [E2.out.1] at sq0 ⊢
          obtain ⟨aq0, cq0, rfl, -, -⟩ := sq0.nd.len
          have SQ0 := Lib.hid sq0
          clear sq0
          go_wp2_with fail
          refine (SQ0.out.paint (by rw [L2.out.1]; exact hl1) ((has_len L2.out.1).2 HX.out) true).mono ?_
          rintro e' wq1 ⟨vq1, rfl, sq1⟩
          rw [E2.out.2.1] at sq1 ⊢
          obtain ⟨aq1, cq1, rfl, -, -⟩ := sq1.nd.len
          have SQ1 := Lib.hid sq1
          clear sq1
          go_wp2_with fail
          refine (SQ1.out.turn (by rw [L2.out.2.1]; exact hl1) s HT0.out).mono ?_
          rintro e' wq2 ⟨vq2, rfl, sq2⟩
          rw [E2.out.2.2] at sq2 ⊢
          obtain ⟨aq2, cq2, rfl, -, -⟩ := sq2.nd.len
          have SQ2 := Lib.hid sq2
          clear sq2
          have HB3 := Lib.hid (HB2.out.st SQ2.out L2.out.2.2)
          obtain ⟨y0, y1, y2, y3⟩ := HB2.out.stc SQ2.out
          clear x0 x1 x2 x3 SQ0 SQ1 HB2
          go_upto_region 5 with fail
          clear y0 y1 y2 y3
          generalize (wq2.setCell ⟨W.heap.size, 0, none⟩ (.int .i64 t4.root)).setCell ⟨W.heap.size, 1, none⟩ (.slice aq2 t4.ns.length cq2) = w8 at HB3 ⊢
          obtain ⟨x0, x1, x2, x3⟩ := HB3.out.tb.all
          go_wp2_with fail
          refine (rkid_at HB3.out.nd ((has_len L2.out.2.2).2 HX.out) (!s)).mono ?_
          rintro e' w9 ⟨rfl, hgg⟩
          rw [EQ2.out]
          have HB4 := Lib.hid (HB3.out.gr hgg)
          clear x0 x1 x2 x3 hgg HB3
          have hfv := HFV.out
          have hmn := HMN.out
          clear HFV
          obtain ⟨-, evq, hvq, okn, okf, hways⟩ := fillV_parts hfv
          obtain ⟨nr, enr⟩ : ∃ nr, t4.kid q2 s = nr := ⟨_, rfl⟩
          obtain ⟨fr, efr⟩ : ∃ fr, t4.kid q2 (!s) = fr := ⟨_, rfl⟩
          rw [enr] at okn
          rw [efr] at okf
          rw [enr, efr] at hways
          have EVQ := Lib.hid evq
          have HVQ := Lib.hid hvq
          have OKN := Lib.hid okn
          have OKF := Lib.hid okf
          have ENR := Lib.hid enr
          have EFR := Lib.hid efr
          have HWS := Lib.hid hways
          clear hfv evq hvq okn okf enr efr hways
          obtain ⟨x0, x1, x2, x3⟩ := HB4.out.tb.all
          go_wp2_with fail
          refine (rkid_at HB4.out.nd HVQ.out s).mono ?_
          rintro e' w10 ⟨rfl, hgg⟩
          rw [ENR.out]
          have HB10 := Lib.hid (HB4.out.gr hgg)
          clear x0 x1 x2 x3 hgg HB4
          obtain ⟨x0, x1, x2, x3⟩ := HB10.out.tb.all
          go_wp2_with fail
          refine (rkid_at HB10.out.nd HVQ.out (!s)).mono ?_
          rintro e' w11 ⟨rfl, hgg⟩
          rw [EFR.out]
          have HB11 := Lib.hid (HB10.out.gr hgg)
          clear x0 x1 x2 x3 hgg HB10
          obtain ⟨x0, x1, x2, x3⟩ := HB11.out.tb.all
          go_wp2_with fail
          refine (rred_at HB11.out.nd OKN.out).mono ?_
          rintro e' w12 ⟨rfl, hgg⟩
          have HB12 := Lib.hid (HB11.out.gr hgg)
          clear x0 x1 x2 x3 hgg HB11
          rcases HWS.out with ⟨rf, hsf⟩ | ⟨rf, rn, hnr, htn, hsf⟩ | ⟨rf, rn, h0m, hpu, rest⟩
          · obtain ⟨vf, ff, -, ef1, hvf, ef2, hff, htt, htf⟩ := hsf
            rw [EVQ.out] at ef1
            subst ef1
            rw [EFR.out] at ef2
            subst ef2
            have HVF := Lib.hid hvf
            have HFF := Lib.hid hff
            have HTT := Lib.hid htt
            have HTF := Lib.hid htf
            have RF := Lib.hid rf
            clear hvf hff htt htf rf HWS
            cases hn : t4.redB nr with
            | true =>
              clear hn
              obtain ⟨x0, x1, x2, x3⟩ := HB12.out.tb.all
              go_wp2_with fail
              refine (rred_at HB12.out.nd OKF.out).mono ?_
              rintro e' w13 ⟨rfl, hgg⟩
              rw [RF.out]
              have HB13 := Lib.hid (HB12.out.gr hgg)
              clear x0 x1 x2 x3 hgg HB12
              obtain ⟨ta, ea⟩ : ∃ ta, t4.paint q2 (t4.nd kp).red = ta := ⟨_, rfl⟩
              obtain ⟨tc, ec⟩ : ∃ tc, ta.paint kp false = tc := ⟨_, rfl⟩
              obtain ⟨td, ed⟩ : ∃ td, tc.paint fr false = td := ⟨_, rfl⟩
              rw [ea, ec, ed] at HTT
              rw [ea, ec, ed] at HTF
              have LA : Hid (ta.ns.length = t1.ns.length ∧ tc.ns.length = t1.ns.length ∧ td.ns.length = t1.ns.length) := Lib.hid (by rw [← ed, paint_len, ← ec, paint_len, ← ea, paint_len]; exact ⟨L2.out.2.2, L2.out.2.2, L2.out.2.2⟩)
              have EA := Lib.hid (And.intro ea (And.intro ec ed))
              clear ea ec ed
              have hkb : kp < t4.ns.length := by rw [L2.out.2.2]; exact hkp
              obtain ⟨nbr, offr, capr, her, hr1, hr2, -⟩ := HB13.out.nd.at hkb
              simp only [Value.slice.injEq] at her
              obtain ⟨rfl, -, rfl⟩ := her
              unfold maxLen at hr2
              obtain ⟨cr, hcr⟩ : ∃ cr, (t4.nd kp).red = cr := ⟨_, rfl⟩
              have HCR := Lib.hid hcr
              rw [hcr] at EA
              clear hcr
              go_upto_region 16 with fail
              obtain ⟨x0, x1, x2, x3⟩ := HB13.out.tb.all
              have r1 := HB13.out.nd.redc hkb
              rw [HCR.out] at r1
              have HPA : Hid (Calls Try.prog 44 #[.agg #[.int .i64 t4.root, .slice (some ⟨nbr, offr, none⟩) t4.ns.length cq2], .int .i64 q2, .bool cr] w13.drew (Rs w13.drew (.slice (some ⟨nbr, offr, none⟩) t4.ns.length cq2) ta)) := Lib.hid (by
                have h1 := (HB13.out.gr (Gr.drew w13 1)).s.paint (by rw [L2.out.2.2]; exact hl1) HVF.out cr
                rw [EA.out.1] at h1
                exact h1)
              have HST : Hid (∀ Y aq cq, St w13.drew (.slice (some ⟨nbr, offr, none⟩) t4.ns.length cq2) ta Y (.slice aq ta.ns.length cq) → Bx W ((Y.setCell ⟨W.heap.size, 0, none⟩ (.int .i64 ta.root)).setCell ⟨W.heap.size, 1, none⟩ (.slice aq ta.ns.length cq)) (.slice a t.ns.length cap) ta (.slice aq ta.ns.length cq)) := Lib.hid (fun Y aq cq hs => (HB13.out.gr (Gr.drew w13 1)).st hs (LA.out.1.trans (L2.out.2.2).symm))
              have HSC : Hid (∀ Y aq cq, St w13.drew (.slice (some ⟨nbr, offr, none⟩) t4.ns.length cq2) ta Y (.slice aq ta.ns.length cq) → Y.cell? ⟨W.heap.size, 0, none⟩ = some (.int .i64 t4.root) ∧ Y.cell? ⟨W.heap.size, 1, none⟩ = some (.slice (some ⟨nbr, offr, none⟩) t4.ns.length cq2) ∧ Y.frozen? ⟨W.heap.size, 0, none⟩ = false ∧ Y.frozen? ⟨W.heap.size, 1, none⟩ = false) := Lib.hid (fun Y aq cq hs => (HB13.out.gr (Gr.drew w13 1)).stc hs)
              clear HB13
              go_region_law (first
                | (go_simp; go_at_call 44; refine HPA.out.mono ?_; rintro e' wq10 ⟨vq10, rfl, sq10⟩; obtain ⟨aq10, cq10, rfl, -, -⟩ := sq10.nd.len; obtain ⟨y0, y1, y2, y3⟩ := HSC.out _ _ _ sq10))
              all_goals
                have HB20 := Lib.hid (HST.out _ _ _ sq10)
                clear x0 x1 x2 x3 y0 y1 y2 y3 r1 sq10 HPA HST HSC
                generalize (wq10.setCell ⟨W.heap.size, 0, none⟩ (.int .i64 ta.root)).setCell ⟨W.heap.size, 1, none⟩ (.slice aq10 ta.ns.length cq10) = w20 at HB20 ⊢
                obtain ⟨x0, x1, x2, x3⟩ := HB20.out.tb.all
                go_wp2_with fail
                refine (HB20.out.s.paint (by rw [LA.out.1]; exact hl1) ((has_len LA.out.1).2 HX.out) false).mono ?_
                rintro e' wq11 ⟨vq11, rfl, sq11⟩
                rw [EA.out.2.1] at sq11 ⊢
                obtain ⟨aq11, cq11, rfl, -, -⟩ := sq11.nd.len
                have SQ11 := Lib.hid sq11
                clear sq11
                go_wp2_with fail
                refine (SQ11.out.paint (by rw [LA.out.2.1]; exact hl1) ((has_len (LA.out.2.1.trans (L2.out.2.2).symm)).2 HFF.out) false).mono ?_
                rintro e' wq12 ⟨vq12, rfl, sq12⟩
                rw [EA.out.2.2] at sq12 ⊢
                obtain ⟨aq12, cq12, rfl, -, -⟩ := sq12.nd.len
                have SQ12 := Lib.hid sq12
                clear sq12
                have HB21 := Lib.hid (HB20.out.st SQ12.out (LA.out.2.2.trans LA.out.1.symm))
                obtain ⟨y0, y1, y2, y3⟩ := HB20.out.stc SQ12.out
                clear x0 x1 x2 x3 SQ11 HB20
                go_upto_region 18 with fail
                clear y0 y1 y2 y3
                generalize (wq12.setCell ⟨W.heap.size, 0, none⟩ (.int .i64 td.root)).setCell ⟨W.heap.size, 1, none⟩ (.slice aq12 td.ns.length cq12) = w21 at HB21 ⊢
                obtain ⟨x0, x1, x2, x3⟩ := HB21.out.tb.all
                go_wp2_with fail
                refine (HB21.out.s.turn (by rw [LA.out.2.2]; exact hl1) s HTT.out).mono ?_
                rintro e' wq13 ⟨vq13, rfl, sq13⟩
                rw [← HTF.out] at sq13 ⊢
                obtain ⟨aq13, cq13, rfl, -, -⟩ := sq13.nd.len
                have SQ13 := Lib.hid sq13
                clear sq13
                have HF := Lib.hid (HB21.out.fst SQ13.out ((HL0.out.trans HLN.out.symm).trans LA.out.2.2.symm))
                obtain ⟨y0, y1, y2, y3⟩ := HB21.out.fstc SQ13.out
                clear x0 x1 x2 x3  HB21
                go_wp2
                obtain ⟨z0, z1, -, -⟩ := HF.out.rb.all
                exact bodyPost_ret (v := .agg #[.int .i64 t'.root, .slice aq13 t'.ns.length cq13]) (by simp [results, Try.results45, go_sem, z0, z1]) rfl ⟨_, rfl, HF.out.nd, HF.out.bl, HF.out.dj⟩
            | false =>
              clear hn
              obtain ⟨x0, x1, x2, x3⟩ := HB12.out.tb.all
              go_wp2_with fail
              refine (rred_at HB12.out.nd OKF.out).mono ?_
              rintro e' w13 ⟨rfl, hgg⟩
              rw [RF.out]
              have HB13 := Lib.hid (HB12.out.gr hgg)
              clear x0 x1 x2 x3 hgg HB12
              obtain ⟨x0, x1, x2, x3⟩ := HB13.out.tb.all
              go_wp2_with fail
              refine (rred_at HB13.out.nd OKF.out).mono ?_
              rintro e' w14 ⟨rfl, hgg⟩
              rw [RF.out]
              have HB14 := Lib.hid (HB13.out.gr hgg)
              clear x0 x1 x2 x3 hgg HB13
              obtain ⟨ta, ea⟩ : ∃ ta, t4.paint q2 (t4.nd kp).red = ta := ⟨_, rfl⟩
              obtain ⟨tc, ec⟩ : ∃ tc, ta.paint kp false = tc := ⟨_, rfl⟩
              obtain ⟨td, ed⟩ : ∃ td, tc.paint fr false = td := ⟨_, rfl⟩
              rw [ea, ec, ed] at HTT
              rw [ea, ec, ed] at HTF
              have LA : Hid (ta.ns.length = t1.ns.length ∧ tc.ns.length = t1.ns.length ∧ td.ns.length = t1.ns.length) := Lib.hid (by rw [← ed, paint_len, ← ec, paint_len, ← ea, paint_len]; exact ⟨L2.out.2.2, L2.out.2.2, L2.out.2.2⟩)
              have EA := Lib.hid (And.intro ea (And.intro ec ed))
              clear ea ec ed
              have hkb : kp < t4.ns.length := by rw [L2.out.2.2]; exact hkp
              obtain ⟨nbr, offr, capr, her, hr1, hr2, -⟩ := HB14.out.nd.at hkb
              simp only [Value.slice.injEq] at her
              obtain ⟨rfl, -, rfl⟩ := her
              unfold maxLen at hr2
              obtain ⟨cr, hcr⟩ : ∃ cr, (t4.nd kp).red = cr := ⟨_, rfl⟩
              have HCR := Lib.hid hcr
              rw [hcr] at EA
              clear hcr
              go_upto_region 16 with fail
              obtain ⟨x0, x1, x2, x3⟩ := HB14.out.tb.all
              have r1 := HB14.out.nd.redc hkb
              rw [HCR.out] at r1
              have HPA : Hid (Calls Try.prog 44 #[.agg #[.int .i64 t4.root, .slice (some ⟨nbr, offr, none⟩) t4.ns.length cq2], .int .i64 q2, .bool cr] w14.drew (Rs w14.drew (.slice (some ⟨nbr, offr, none⟩) t4.ns.length cq2) ta)) := Lib.hid (by
                have h1 := (HB14.out.gr (Gr.drew w14 1)).s.paint (by rw [L2.out.2.2]; exact hl1) HVF.out cr
                rw [EA.out.1] at h1
                exact h1)
              have HST : Hid (∀ Y aq cq, St w14.drew (.slice (some ⟨nbr, offr, none⟩) t4.ns.length cq2) ta Y (.slice aq ta.ns.length cq) → Bx W ((Y.setCell ⟨W.heap.size, 0, none⟩ (.int .i64 ta.root)).setCell ⟨W.heap.size, 1, none⟩ (.slice aq ta.ns.length cq)) (.slice a t.ns.length cap) ta (.slice aq ta.ns.length cq)) := Lib.hid (fun Y aq cq hs => (HB14.out.gr (Gr.drew w14 1)).st hs (LA.out.1.trans (L2.out.2.2).symm))
              have HSC : Hid (∀ Y aq cq, St w14.drew (.slice (some ⟨nbr, offr, none⟩) t4.ns.length cq2) ta Y (.slice aq ta.ns.length cq) → Y.cell? ⟨W.heap.size, 0, none⟩ = some (.int .i64 t4.root) ∧ Y.cell? ⟨W.heap.size, 1, none⟩ = some (.slice (some ⟨nbr, offr, none⟩) t4.ns.length cq2) ∧ Y.frozen? ⟨W.heap.size, 0, none⟩ = false ∧ Y.frozen? ⟨W.heap.size, 1, none⟩ = false) := Lib.hid (fun Y aq cq hs => (HB14.out.gr (Gr.drew w14 1)).stc hs)
              clear HB14
              go_region_law (first
                | (go_simp; go_at_call 44; refine HPA.out.mono ?_; rintro e' wq10 ⟨vq10, rfl, sq10⟩; obtain ⟨aq10, cq10, rfl, -, -⟩ := sq10.nd.len; obtain ⟨y0, y1, y2, y3⟩ := HSC.out _ _ _ sq10))
              all_goals
                have HB20 := Lib.hid (HST.out _ _ _ sq10)
                clear x0 x1 x2 x3 y0 y1 y2 y3 r1 sq10 HPA HST HSC
                generalize (wq10.setCell ⟨W.heap.size, 0, none⟩ (.int .i64 ta.root)).setCell ⟨W.heap.size, 1, none⟩ (.slice aq10 ta.ns.length cq10) = w20 at HB20 ⊢
                obtain ⟨x0, x1, x2, x3⟩ := HB20.out.tb.all
                go_wp2_with fail
                refine (HB20.out.s.paint (by rw [LA.out.1]; exact hl1) ((has_len LA.out.1).2 HX.out) false).mono ?_
                rintro e' wq11 ⟨vq11, rfl, sq11⟩
                rw [EA.out.2.1] at sq11 ⊢
                obtain ⟨aq11, cq11, rfl, -, -⟩ := sq11.nd.len
                have SQ11 := Lib.hid sq11
                clear sq11
                go_wp2_with fail
                refine (SQ11.out.paint (by rw [LA.out.2.1]; exact hl1) ((has_len (LA.out.2.1.trans (L2.out.2.2).symm)).2 HFF.out) false).mono ?_
                rintro e' wq12 ⟨vq12, rfl, sq12⟩
                rw [EA.out.2.2] at sq12 ⊢
                obtain ⟨aq12, cq12, rfl, -, -⟩ := sq12.nd.len
                have SQ12 := Lib.hid sq12
                clear sq12
                have HB21 := Lib.hid (HB20.out.st SQ12.out (LA.out.2.2.trans LA.out.1.symm))
                obtain ⟨y0, y1, y2, y3⟩ := HB20.out.stc SQ12.out
                clear x0 x1 x2 x3 SQ11 HB20
                go_upto_region 18 with fail
                clear y0 y1 y2 y3
                generalize (wq12.setCell ⟨W.heap.size, 0, none⟩ (.int .i64 td.root)).setCell ⟨W.heap.size, 1, none⟩ (.slice aq12 td.ns.length cq12) = w21 at HB21 ⊢
                obtain ⟨x0, x1, x2, x3⟩ := HB21.out.tb.all
                go_wp2_with fail
                refine (HB21.out.s.turn (by rw [LA.out.2.2]; exact hl1) s HTT.out).mono ?_
                rintro e' wq13 ⟨vq13, rfl, sq13⟩
                rw [← HTF.out] at sq13 ⊢
                obtain ⟨aq13, cq13, rfl, -, -⟩ := sq13.nd.len
                have SQ13 := Lib.hid sq13
                clear sq13
                have HF := Lib.hid (HB21.out.fst SQ13.out ((HL0.out.trans HLN.out.symm).trans LA.out.2.2.symm))
                obtain ⟨y0, y1, y2, y3⟩ := HB21.out.fstc SQ13.out
                clear x0 x1 x2 x3  HB21
                go_wp2
                obtain ⟨z0, z1, -, -⟩ := HF.out.rb.all
                exact bodyPost_ret (v := .agg #[.int .i64 t'.root, .slice aq13 t'.ns.length cq13]) (by simp [results, Try.results45, go_sem, z0, z1]) rfl ⟨_, rfl, HF.out.nd, HF.out.bl, HF.out.dj⟩
          · rw [rn]
            have HNR := Lib.hid hnr
            have HTN := Lib.hid htn
            have RF := Lib.hid rf
            obtain ⟨te, ee⟩ : ∃ te, t4.paint nr false = te := ⟨_, rfl⟩
            obtain ⟨tf, ef⟩ : ∃ tf, te.paint q2 true = tf := ⟨_, rfl⟩
            obtain ⟨tg, eg⟩ : ∃ tg, tf.turn q2 (!s) = tg := ⟨_, rfl⟩
            rw [ee, ef, eg] at hsf
            rw [ee, ef] at HTN
            have LE : Hid (te.ns.length = t1.ns.length ∧ tf.ns.length = t1.ns.length ∧ tg.ns.length = t1.ns.length) := Lib.hid (by rw [← eg, turn_len, ← ef, paint_len, ← ee, paint_len]; exact ⟨L2.out.2.2, L2.out.2.2, L2.out.2.2⟩)
            have EE := Lib.hid (And.intro ee (And.intro ef eg))
            obtain ⟨vf, ff, -, ef1, hvf, ef2, hff, htt, htf⟩ := hsf
            have EF1 := Lib.hid ef1
            have EF2 := Lib.hid ef2
            have HVF := Lib.hid hvf
            have HFF := Lib.hid hff
            have HTT := Lib.hid htt
            have HTF := Lib.hid htf
            clear rn hnr htn rf ee ef eg ef1 hvf ef2 hff htt htf HWS
            obtain ⟨x0, x1, x2, x3⟩ := HB12.out.tb.all
            go_wp2_with fail
            refine (rred_at HB12.out.nd OKF.out).mono ?_
            rintro e' w13 ⟨rfl, hgg⟩
            rw [RF.out]
            have HB13 := Lib.hid (HB12.out.gr hgg)
            clear x0 x1 x2 x3 hgg HB12
            obtain ⟨x0, x1, x2, x3⟩ := HB13.out.tb.all
            go_wp2_with fail
            refine (HB13.out.s.paint (by rw [L2.out.2.2]; exact hl1) HNR.out false).mono ?_
            rintro e' wq3 ⟨vq3, rfl, sq3⟩
            rw [EE.out.1] at sq3 ⊢
            obtain ⟨aq3, cq3, rfl, -, -⟩ := sq3.nd.len
            have SQ3 := Lib.hid sq3
            clear sq3
            go_wp2_with fail
            refine (SQ3.out.paint (by rw [LE.out.1]; exact hl1) ((has_len (LE.out.1.trans (L2.out.2.2).symm)).2 HVQ.out) true).mono ?_
            rintro e' wq4 ⟨vq4, rfl, sq4⟩
            rw [EE.out.2.1] at sq4 ⊢
            obtain ⟨aq4, cq4, rfl, -, -⟩ := sq4.nd.len
            have SQ4 := Lib.hid sq4
            clear sq4
            go_wp2_with fail
            refine (SQ4.out.turn (by rw [LE.out.2.1]; exact hl1) (!s) HTN.out).mono ?_
            rintro e' wq5 ⟨vq5, rfl, sq5⟩
            rw [EE.out.2.2] at sq5 ⊢
            obtain ⟨aq5, cq5, rfl, -, -⟩ := sq5.nd.len
            have SQ5 := Lib.hid sq5
            clear sq5
            have HB14 := Lib.hid (HB13.out.st SQ5.out (LE.out.2.2.trans (L2.out.2.2).symm))
            obtain ⟨y0, y1, y2, y3⟩ := HB13.out.stc SQ5.out
            clear x0 x1 x2 x3 SQ3 SQ4 HB13
            go_upto_region 14 with fail
            clear y0 y1 y2 y3
            generalize (wq5.setCell ⟨W.heap.size, 0, none⟩ (.int .i64 tg.root)).setCell ⟨W.heap.size, 1, none⟩ (.slice aq5 tg.ns.length cq5) = w14 at HB14 ⊢
            obtain ⟨x0, x1, x2, x3⟩ := HB14.out.tb.all
            go_wp2_with fail
            refine (rkid_at HB14.out.nd ((has_len LE.out.2.2).2 HX.out) (!s)).mono ?_
            rintro e' w15 ⟨rfl, hgg⟩
            rw [EF1.out]
            have HB15 := Lib.hid (HB14.out.gr hgg)
            clear x0 x1 x2 x3 hgg HB14
            obtain ⟨x0, x1, x2, x3⟩ := HB15.out.tb.all
            go_wp2_with fail
            refine (rkid_at HB15.out.nd HVF.out (!s)).mono ?_
            rintro e' w16 ⟨rfl, hgg⟩
            rw [EF2.out]
            have HB16 := Lib.hid (HB15.out.gr hgg)
            clear x0 x1 x2 x3 hgg HB15
            obtain ⟨ta, ea⟩ : ∃ ta, tg.paint vf (tg.nd kp).red = ta := ⟨_, rfl⟩
            obtain ⟨tc, ec⟩ : ∃ tc, ta.paint kp false = tc := ⟨_, rfl⟩
            obtain ⟨td, ed⟩ : ∃ td, tc.paint ff false = td := ⟨_, rfl⟩
            rw [ea, ec, ed] at HTT
            rw [ea, ec, ed] at HTF
            have LA : Hid (ta.ns.length = t1.ns.length ∧ tc.ns.length = t1.ns.length ∧ td.ns.length = t1.ns.length) := Lib.hid (by rw [← ed, paint_len, ← ec, paint_len, ← ea, paint_len]; exact ⟨LE.out.2.2, LE.out.2.2, LE.out.2.2⟩)
            have EA := Lib.hid (And.intro ea (And.intro ec ed))
            clear ea ec ed
            have hkb : kp < tg.ns.length := by rw [LE.out.2.2]; exact hkp
            obtain ⟨nbr, offr, capr, her, hr1, hr2, -⟩ := HB16.out.nd.at hkb
            simp only [Value.slice.injEq] at her
            obtain ⟨rfl, -, rfl⟩ := her
            unfold maxLen at hr2
            obtain ⟨cr, hcr⟩ : ∃ cr, (tg.nd kp).red = cr := ⟨_, rfl⟩
            have HCR := Lib.hid hcr
            rw [hcr] at EA
            clear hcr
            go_upto_region 16 with fail
            obtain ⟨x0, x1, x2, x3⟩ := HB16.out.tb.all
            have r1 := HB16.out.nd.redc hkb
            rw [HCR.out] at r1
            have HPA : Hid (Calls Try.prog 44 #[.agg #[.int .i64 tg.root, .slice (some ⟨nbr, offr, none⟩) tg.ns.length cq5], .int .i64 vf, .bool cr] w16.drew (Rs w16.drew (.slice (some ⟨nbr, offr, none⟩) tg.ns.length cq5) ta)) := Lib.hid (by
              have h1 := (HB16.out.gr (Gr.drew w16 1)).s.paint (by rw [LE.out.2.2]; exact hl1) HVF.out cr
              rw [EA.out.1] at h1
              exact h1)
            have HST : Hid (∀ Y aq cq, St w16.drew (.slice (some ⟨nbr, offr, none⟩) tg.ns.length cq5) ta Y (.slice aq ta.ns.length cq) → Bx W ((Y.setCell ⟨W.heap.size, 0, none⟩ (.int .i64 ta.root)).setCell ⟨W.heap.size, 1, none⟩ (.slice aq ta.ns.length cq)) (.slice a t.ns.length cap) ta (.slice aq ta.ns.length cq)) := Lib.hid (fun Y aq cq hs => (HB16.out.gr (Gr.drew w16 1)).st hs (LA.out.1.trans (LE.out.2.2).symm))
            have HSC : Hid (∀ Y aq cq, St w16.drew (.slice (some ⟨nbr, offr, none⟩) tg.ns.length cq5) ta Y (.slice aq ta.ns.length cq) → Y.cell? ⟨W.heap.size, 0, none⟩ = some (.int .i64 tg.root) ∧ Y.cell? ⟨W.heap.size, 1, none⟩ = some (.slice (some ⟨nbr, offr, none⟩) tg.ns.length cq5) ∧ Y.frozen? ⟨W.heap.size, 0, none⟩ = false ∧ Y.frozen? ⟨W.heap.size, 1, none⟩ = false) := Lib.hid (fun Y aq cq hs => (HB16.out.gr (Gr.drew w16 1)).stc hs)
            clear HB16
            go_region_law (first
              | (go_simp; go_at_call 44; refine HPA.out.mono ?_; rintro e' wq10 ⟨vq10, rfl, sq10⟩; obtain ⟨aq10, cq10, rfl, -, -⟩ := sq10.nd.len; obtain ⟨y0, y1, y2, y3⟩ := HSC.out _ _ _ sq10))
            all_goals
              have HB20 := Lib.hid (HST.out _ _ _ sq10)
              clear x0 x1 x2 x3 y0 y1 y2 y3 r1 sq10 HPA HST HSC
              generalize (wq10.setCell ⟨W.heap.size, 0, none⟩ (.int .i64 ta.root)).setCell ⟨W.heap.size, 1, none⟩ (.slice aq10 ta.ns.length cq10) = w20 at HB20 ⊢
              obtain ⟨x0, x1, x2, x3⟩ := HB20.out.tb.all
              go_wp2_with fail
              refine (HB20.out.s.paint (by rw [LA.out.1]; exact hl1) ((has_len LA.out.1).2 HX.out) false).mono ?_
              rintro e' wq11 ⟨vq11, rfl, sq11⟩
              rw [EA.out.2.1] at sq11 ⊢
              obtain ⟨aq11, cq11, rfl, -, -⟩ := sq11.nd.len
              have SQ11 := Lib.hid sq11
              clear sq11
              go_wp2_with fail
              refine (SQ11.out.paint (by rw [LA.out.2.1]; exact hl1) ((has_len (LA.out.2.1.trans (LE.out.2.2).symm)).2 HFF.out) false).mono ?_
              rintro e' wq12 ⟨vq12, rfl, sq12⟩
              rw [EA.out.2.2] at sq12 ⊢
              obtain ⟨aq12, cq12, rfl, -, -⟩ := sq12.nd.len
              have SQ12 := Lib.hid sq12
              clear sq12
              have HB21 := Lib.hid (HB20.out.st SQ12.out (LA.out.2.2.trans LA.out.1.symm))
              obtain ⟨y0, y1, y2, y3⟩ := HB20.out.stc SQ12.out
              clear x0 x1 x2 x3 SQ11 HB20
              go_upto_region 18 with fail
              clear y0 y1 y2 y3
              generalize (wq12.setCell ⟨W.heap.size, 0, none⟩ (.int .i64 td.root)).setCell ⟨W.heap.size, 1, none⟩ (.slice aq12 td.ns.length cq12) = w21 at HB21 ⊢
              obtain ⟨x0, x1, x2, x3⟩ := HB21.out.tb.all
              go_wp2_with fail
              refine (HB21.out.s.turn (by rw [LA.out.2.2]; exact hl1) s HTT.out).mono ?_
              rintro e' wq13 ⟨vq13, rfl, sq13⟩
              rw [← HTF.out] at sq13 ⊢
              obtain ⟨aq13, cq13, rfl, -, -⟩ := sq13.nd.len
              have SQ13 := Lib.hid sq13
              clear sq13
              have HF := Lib.hid (HB21.out.fst SQ13.out ((HL0.out.trans HLN.out.symm).trans LA.out.2.2.symm))
              obtain ⟨y0, y1, y2, y3⟩ := HB21.out.fstc SQ13.out
              clear x0 x1 x2 x3  HB21
              go_wp2
              obtain ⟨z0, z1, -, -⟩ := HF.out.rb.all
              exact bodyPost_ret (v := .agg #[.int .i64 t'.root, .slice aq13 t'.ns.length cq13]) (by simp [results, Try.results45, go_sem, z0, z1]) rfl ⟨_, rfl, HF.out.nd, HF.out.bl, HF.out.dj⟩
          · rw [rn]
            have RF := Lib.hid rf
            obtain ⟨th, eh⟩ : ∃ th, t4.paint q2 true = th := ⟨_, rfl⟩
            rw [eh] at hpu rest
            have EH := Lib.hid eh
            have LH : Hid (th.ns.length = t1.ns.length) := Lib.hid (by rw [← eh, paint_len]; try exact L2.out.2.2)
            have HPU := Lib.hid hpu
            have HRS := Lib.hid rest
            clear rn rf eh hpu rest HWS
            obtain ⟨x0, x1, x2, x3⟩ := HB12.out.tb.all
            go_wp2_with fail
            refine (rred_at HB12.out.nd OKF.out).mono ?_
            rintro e' w13 ⟨rfl, hgg⟩
            rw [RF.out]
            have HB13 := Lib.hid (HB12.out.gr hgg)
            clear x0 x1 x2 x3 hgg HB12
            obtain ⟨x0, x1, x2, x3⟩ := HB13.out.tb.all
            go_wp2_with fail
            refine (HB13.out.s.paint (by rw [L2.out.2.2]; exact hl1) HVQ.out true).mono ?_
            rintro e' wq3 ⟨vq3, rfl, sq3⟩
            rw [EH.out] at sq3 ⊢
            obtain ⟨aq3, cq3, rfl, -, -⟩ := sq3.nd.len
            have SQ3 := Lib.hid sq3
            clear sq3
            have HB14 := Lib.hid (HB13.out.st SQ3.out (LH.out.trans (L2.out.2.2).symm))
            obtain ⟨y0, y1, y2, y3⟩ := HB13.out.stc SQ3.out
            clear x0 x1 x2 x3  HB13
            go_upto_region 10 with fail
            clear y0 y1 y2 y3
            generalize (wq3.setCell ⟨W.heap.size, 0, none⟩ (.int .i64 th.root)).setCell ⟨W.heap.size, 1, none⟩ (.slice aq3 th.ns.length cq3) = w14 at HB14 ⊢
            obtain ⟨x0, x1, x2, x3⟩ := HB14.out.tb.all
            go_wp2_with fail
            refine (rside_at HB14.out.nd ((has_len LH.out).2 HX.out) HPU.out).mono ?_
            rintro e' w15 ⟨rfl, hgg⟩
            have HB15 := Lib.hid (HB14.out.gr hgg)
            clear x0 x1 x2 x3 hgg HB14
            have hkh : kp < th.ns.length := by rw [LH.out]; exact hkp
            obtain ⟨nbr, offr, capr, her, hr1, hr2, -⟩ := HB15.out.nd.at hkh
            simp only [Value.slice.injEq] at her
            obtain ⟨rfl, -, rfl⟩ := her
            unfold maxLen at hr2
            obtain ⟨x0, x1, x2, x3⟩ := HB15.out.tb.all
            have m5 := HB15.out.nd.upc hkh
            go_wp2
            go_roundg (m - 1)
            case measure => omega
            case rel => exact ⟨th, _, _, _, rfl, rfl, Lib.hid ⟨HB15.out, LH.out.trans HLN.out, HRS.out⟩⟩
        · rw [rv]
          clear rv HWAY
          obtain ⟨-, evq, hvq, okn, okf, hways⟩ := fillV_parts hfv
          obtain ⟨nr, enr⟩ : ∃ nr, t1.kid q s = nr := ⟨_, rfl⟩
          obtain ⟨fr, efr⟩ : ∃ fr, t1.kid q (!s) = fr := ⟨_, rfl⟩
          rw [enr] at okn
          rw [efr] at okf
          rw [enr, efr] at hways
          have EVQ := Lib.hid evq
          have HVQ := Lib.hid hvq
          have OKN := Lib.hid okn
          have OKF := Lib.hid okf
          have ENR := Lib.hid enr
          have EFR := Lib.hid efr
          have HWS := Lib.hid hways
          clear hfv evq hvq okn okf enr efr hways
          obtain ⟨x0, x1, x2, x3⟩ := HB2.out.tb.all
          go_wp2_with fail
          refine (rkid_at HB2.out.nd HVQ.out s).mono ?_
          rintro e' w10 ⟨rfl, hgg⟩
          rw [ENR.out]
          have HB10 := Lib.hid (HB2.out.gr hgg)
          clear x0 x1 x2 x3 hgg HB2
          obtain ⟨x0, x1, x2, x3⟩ := HB10.out.tb.all
          go_wp2_with fail
          refine (rkid_at HB10.out.nd HVQ.out (!s)).mono ?_
          rintro e' w11 ⟨rfl, hgg⟩
          rw [EFR.out]
          have HB11 := Lib.hid (HB10.out.gr hgg)
          clear x0 x1 x2 x3 hgg HB10
          obtain ⟨x0, x1, x2, x3⟩ := HB11.out.tb.all
          go_wp2_with fail
          refine (rred_at HB11.out.nd OKN.out).mono ?_
          rintro e' w12 ⟨rfl, hgg⟩
          have HB12 := Lib.hid (HB11.out.gr hgg)
          clear x0 x1 x2 x3 hgg HB11
          rcases HWS.out with ⟨rf, hsf⟩ | ⟨rf, rn, hnr, htn, hsf⟩ | ⟨rf, rn, h0m, hpu, rest⟩
          · obtain ⟨vf, ff, -, ef1, hvf, ef2, hff, htt, htf⟩ := hsf
            rw [EVQ.out] at ef1
            subst ef1
            rw [EFR.out] at ef2
            subst ef2
            have HVF := Lib.hid hvf
            have HFF := Lib.hid hff
            have HTT := Lib.hid htt
            have HTF := Lib.hid htf
            have RF := Lib.hid rf
            clear hvf hff htt htf rf HWS
            cases hn : t1.redB nr with
            | true =>
              clear hn
              obtain ⟨x0, x1, x2, x3⟩ := HB12.out.tb.all
              go_wp2_with fail
              refine (rred_at HB12.out.nd OKF.out).mono ?_
              rintro e' w13 ⟨rfl, hgg⟩
              rw [RF.out]
              have HB13 := Lib.hid (HB12.out.gr hgg)
              clear x0 x1 x2 x3 hgg HB12
              obtain ⟨ta, ea⟩ : ∃ ta, t1.paint q (t1.nd kp).red = ta := ⟨_, rfl⟩
              obtain ⟨tc, ec⟩ : ∃ tc, ta.paint kp false = tc := ⟨_, rfl⟩
              obtain ⟨td, ed⟩ : ∃ td, tc.paint fr false = td := ⟨_, rfl⟩
              rw [ea, ec, ed] at HTT
              rw [ea, ec, ed] at HTF
              have LA : Hid (ta.ns.length = t1.ns.length ∧ tc.ns.length = t1.ns.length ∧ td.ns.length = t1.ns.length) := Lib.hid (by rw [← ed, paint_len, ← ec, paint_len, ← ea, paint_len]; exact ⟨(rfl : t1.ns.length = t1.ns.length), (rfl : t1.ns.length = t1.ns.length), (rfl : t1.ns.length = t1.ns.length)⟩)
              have EA := Lib.hid (And.intro ea (And.intro ec ed))
              clear ea ec ed
              have hkb : kp < t1.ns.length := by rw [(rfl : t1.ns.length = t1.ns.length)]; exact hkp
              obtain ⟨nbr, offr, capr, her, hr1, hr2, -⟩ := HB13.out.nd.at hkb
              simp only [Value.slice.injEq] at her
              obtain ⟨rfl, -, rfl⟩ := her
              unfold maxLen at hr2
              obtain ⟨cr, hcr⟩ : ∃ cr, (t1.nd kp).red = cr := ⟨_, rfl⟩
              have HCR := Lib.hid hcr
              rw [hcr] at EA
              clear hcr
              go_upto_region 16 with fail
              obtain ⟨x0, x1, x2, x3⟩ := HB13.out.tb.all
              have r1 := HB13.out.nd.redc hkb
              rw [HCR.out] at r1
              have HPA : Hid (Calls Try.prog 44 #[.agg #[.int .i64 t1.root, .slice (some ⟨nbr, offr, none⟩) t1.ns.length cap1], .int .i64 q, .bool cr] w13.drew (Rs w13.drew (.slice (some ⟨nbr, offr, none⟩) t1.ns.length cap1) ta)) := Lib.hid (by
                have h1 := (HB13.out.gr (Gr.drew w13 1)).s.paint (by rw [(rfl : t1.ns.length = t1.ns.length)]; exact hl1) HVF.out cr
                rw [EA.out.1] at h1
                exact h1)
              have HST : Hid (∀ Y aq cq, St w13.drew (.slice (some ⟨nbr, offr, none⟩) t1.ns.length cap1) ta Y (.slice aq ta.ns.length cq) → Bx W ((Y.setCell ⟨W.heap.size, 0, none⟩ (.int .i64 ta.root)).setCell ⟨W.heap.size, 1, none⟩ (.slice aq ta.ns.length cq)) (.slice a t.ns.length cap) ta (.slice aq ta.ns.length cq)) := Lib.hid (fun Y aq cq hs => (HB13.out.gr (Gr.drew w13 1)).st hs (LA.out.1.trans ((rfl : t1.ns.length = t1.ns.length)).symm))
              have HSC : Hid (∀ Y aq cq, St w13.drew (.slice (some ⟨nbr, offr, none⟩) t1.ns.length cap1) ta Y (.slice aq ta.ns.length cq) → Y.cell? ⟨W.heap.size, 0, none⟩ = some (.int .i64 t1.root) ∧ Y.cell? ⟨W.heap.size, 1, none⟩ = some (.slice (some ⟨nbr, offr, none⟩) t1.ns.length cap1) ∧ Y.frozen? ⟨W.heap.size, 0, none⟩ = false ∧ Y.frozen? ⟨W.heap.size, 1, none⟩ = false) := Lib.hid (fun Y aq cq hs => (HB13.out.gr (Gr.drew w13 1)).stc hs)
              clear HB13
              go_region_law (first
                | (go_simp; go_at_call 44; refine HPA.out.mono ?_; rintro e' wq10 ⟨vq10, rfl, sq10⟩; obtain ⟨aq10, cq10, rfl, -, -⟩ := sq10.nd.len; obtain ⟨y0, y1, y2, y3⟩ := HSC.out _ _ _ sq10))
              all_goals
                have HB20 := Lib.hid (HST.out _ _ _ sq10)
                clear x0 x1 x2 x3 y0 y1 y2 y3 r1 sq10 HPA HST HSC
                generalize (wq10.setCell ⟨W.heap.size, 0, none⟩ (.int .i64 ta.root)).setCell ⟨W.heap.size, 1, none⟩ (.slice aq10 ta.ns.length cq10) = w20 at HB20 ⊢
                obtain ⟨x0, x1, x2, x3⟩ := HB20.out.tb.all
                go_wp2_with fail
                refine (HB20.out.s.paint (by rw [LA.out.1]; exact hl1) ((has_len LA.out.1).2 HX.out) false).mono ?_
                rintro e' wq11 ⟨vq11, rfl, sq11⟩
                rw [EA.out.2.1] at sq11 ⊢
                obtain ⟨aq11, cq11, rfl, -, -⟩ := sq11.nd.len
                have SQ11 := Lib.hid sq11
                clear sq11
                go_wp2_with fail
                refine (SQ11.out.paint (by rw [LA.out.2.1]; exact hl1) ((has_len (LA.out.2.1.trans ((rfl : t1.ns.length = t1.ns.length)).symm)).2 HFF.out) false).mono ?_
                rintro e' wq12 ⟨vq12, rfl, sq12⟩
                rw [EA.out.2.2] at sq12 ⊢
                obtain ⟨aq12, cq12, rfl, -, -⟩ := sq12.nd.len
                have SQ12 := Lib.hid sq12
                clear sq12
                have HB21 := Lib.hid (HB20.out.st SQ12.out (LA.out.2.2.trans LA.out.1.symm))
                obtain ⟨y0, y1, y2, y3⟩ := HB20.out.stc SQ12.out
                clear x0 x1 x2 x3 SQ11 HB20
                go_upto_region 18 with fail
                clear y0 y1 y2 y3
                generalize (wq12.setCell ⟨W.heap.size, 0, none⟩ (.int .i64 td.root)).setCell ⟨W.heap.size, 1, none⟩ (.slice aq12 td.ns.length cq12) = w21 at HB21 ⊢
                obtain ⟨x0, x1, x2, x3⟩ := HB21.out.tb.all
                go_wp2_with fail
                refine (HB21.out.s.turn (by rw [LA.out.2.2]; exact hl1) s HTT.out).mono ?_
                rintro e' wq13 ⟨vq13, rfl, sq13⟩
                rw [← HTF.out] at sq13 ⊢
                obtain ⟨aq13, cq13, rfl, -, -⟩ := sq13.nd.len
                have SQ13 := Lib.hid sq13
                clear sq13
                have HF := Lib.hid (HB21.out.fst SQ13.out ((HL0.out.trans HLN.out.symm).trans LA.out.2.2.symm))
                obtain ⟨y0, y1, y2, y3⟩ := HB21.out.fstc SQ13.out
                clear x0 x1 x2 x3  HB21
                go_wp2
                obtain ⟨z0, z1, -, -⟩ := HF.out.rb.all
                exact bodyPost_ret (v := .agg #[.int .i64 t'.root, .slice aq13 t'.ns.length cq13]) (by simp [results, Try.results45, go_sem, z0, z1]) rfl ⟨_, rfl, HF.out.nd, HF.out.bl, HF.out.dj⟩
            | false =>
              clear hn
              obtain ⟨x0, x1, x2, x3⟩ := HB12.out.tb.all
              go_wp2_with fail
              refine (rred_at HB12.out.nd OKF.out).mono ?_
              rintro e' w13 ⟨rfl, hgg⟩
              rw [RF.out]
              have HB13 := Lib.hid (HB12.out.gr hgg)
              clear x0 x1 x2 x3 hgg HB12
              obtain ⟨x0, x1, x2, x3⟩ := HB13.out.tb.all
              go_wp2_with fail
              refine (rred_at HB13.out.nd OKF.out).mono ?_
              rintro e' w14 ⟨rfl, hgg⟩
              rw [RF.out]
              have HB14 := Lib.hid (HB13.out.gr hgg)
              clear x0 x1 x2 x3 hgg HB13
              obtain ⟨ta, ea⟩ : ∃ ta, t1.paint q (t1.nd kp).red = ta := ⟨_, rfl⟩
              obtain ⟨tc, ec⟩ : ∃ tc, ta.paint kp false = tc := ⟨_, rfl⟩
              obtain ⟨td, ed⟩ : ∃ td, tc.paint fr false = td := ⟨_, rfl⟩
              rw [ea, ec, ed] at HTT
              rw [ea, ec, ed] at HTF
              have LA : Hid (ta.ns.length = t1.ns.length ∧ tc.ns.length = t1.ns.length ∧ td.ns.length = t1.ns.length) := Lib.hid (by rw [← ed, paint_len, ← ec, paint_len, ← ea, paint_len]; exact ⟨(rfl : t1.ns.length = t1.ns.length), (rfl : t1.ns.length = t1.ns.length), (rfl : t1.ns.length = t1.ns.length)⟩)
              have EA := Lib.hid (And.intro ea (And.intro ec ed))
              clear ea ec ed
              have hkb : kp < t1.ns.length := by rw [(rfl : t1.ns.length = t1.ns.length)]; exact hkp
              obtain ⟨nbr, offr, capr, her, hr1, hr2, -⟩ := HB14.out.nd.at hkb
              simp only [Value.slice.injEq] at her
              obtain ⟨rfl, -, rfl⟩ := her
              unfold maxLen at hr2
              obtain ⟨cr, hcr⟩ : ∃ cr, (t1.nd kp).red = cr := ⟨_, rfl⟩
              have HCR := Lib.hid hcr
              rw [hcr] at EA
              clear hcr
              go_upto_region 16 with fail
              obtain ⟨x0, x1, x2, x3⟩ := HB14.out.tb.all
              have r1 := HB14.out.nd.redc hkb
              rw [HCR.out] at r1
              have HPA : Hid (Calls Try.prog 44 #[.agg #[.int .i64 t1.root, .slice (some ⟨nbr, offr, none⟩) t1.ns.length cap1], .int .i64 q, .bool cr] w14.drew (Rs w14.drew (.slice (some ⟨nbr, offr, none⟩) t1.ns.length cap1) ta)) := Lib.hid (by
                have h1 := (HB14.out.gr (Gr.drew w14 1)).s.paint (by rw [(rfl : t1.ns.length = t1.ns.length)]; exact hl1) HVF.out cr
                rw [EA.out.1] at h1
                exact h1)
              have HST : Hid (∀ Y aq cq, St w14.drew (.slice (some ⟨nbr, offr, none⟩) t1.ns.length cap1) ta Y (.slice aq ta.ns.length cq) → Bx W ((Y.setCell ⟨W.heap.size, 0, none⟩ (.int .i64 ta.root)).setCell ⟨W.heap.size, 1, none⟩ (.slice aq ta.ns.length cq)) (.slice a t.ns.length cap) ta (.slice aq ta.ns.length cq)) := Lib.hid (fun Y aq cq hs => (HB14.out.gr (Gr.drew w14 1)).st hs (LA.out.1.trans ((rfl : t1.ns.length = t1.ns.length)).symm))
              have HSC : Hid (∀ Y aq cq, St w14.drew (.slice (some ⟨nbr, offr, none⟩) t1.ns.length cap1) ta Y (.slice aq ta.ns.length cq) → Y.cell? ⟨W.heap.size, 0, none⟩ = some (.int .i64 t1.root) ∧ Y.cell? ⟨W.heap.size, 1, none⟩ = some (.slice (some ⟨nbr, offr, none⟩) t1.ns.length cap1) ∧ Y.frozen? ⟨W.heap.size, 0, none⟩ = false ∧ Y.frozen? ⟨W.heap.size, 1, none⟩ = false) := Lib.hid (fun Y aq cq hs => (HB14.out.gr (Gr.drew w14 1)).stc hs)
              clear HB14
              go_region_law (first
                | (go_simp; go_at_call 44; refine HPA.out.mono ?_; rintro e' wq10 ⟨vq10, rfl, sq10⟩; obtain ⟨aq10, cq10, rfl, -, -⟩ := sq10.nd.len; obtain ⟨y0, y1, y2, y3⟩ := HSC.out _ _ _ sq10))
              all_goals
                have HB20 := Lib.hid (HST.out _ _ _ sq10)
                clear x0 x1 x2 x3 y0 y1 y2 y3 r1 sq10 HPA HST HSC
                generalize (wq10.setCell ⟨W.heap.size, 0, none⟩ (.int .i64 ta.root)).setCell ⟨W.heap.size, 1, none⟩ (.slice aq10 ta.ns.length cq10) = w20 at HB20 ⊢
                obtain ⟨x0, x1, x2, x3⟩ := HB20.out.tb.all
                go_wp2_with fail
                refine (HB20.out.s.paint (by rw [LA.out.1]; exact hl1) ((has_len LA.out.1).2 HX.out) false).mono ?_
                rintro e' wq11 ⟨vq11, rfl, sq11⟩
                rw [EA.out.2.1] at sq11 ⊢
                obtain ⟨aq11, cq11, rfl, -, -⟩ := sq11.nd.len
                have SQ11 := Lib.hid sq11
                clear sq11
                go_wp2_with fail
                refine (SQ11.out.paint (by rw [LA.out.2.1]; exact hl1) ((has_len (LA.out.2.1.trans ((rfl : t1.ns.length = t1.ns.length)).symm)).2 HFF.out) false).mono ?_
                rintro e' wq12 ⟨vq12, rfl, sq12⟩
                rw [EA.out.2.2] at sq12 ⊢
                obtain ⟨aq12, cq12, rfl, -, -⟩ := sq12.nd.len
                have SQ12 := Lib.hid sq12
                clear sq12
                have HB21 := Lib.hid (HB20.out.st SQ12.out (LA.out.2.2.trans LA.out.1.symm))
                obtain ⟨y0, y1, y2, y3⟩ := HB20.out.stc SQ12.out
                clear x0 x1 x2 x3 SQ11 HB20
                go_upto_region 18 with fail
                clear y0 y1 y2 y3
                generalize (wq12.setCell ⟨W.heap.size, 0, none⟩ (.int .i64 td.root)).setCell ⟨W.heap.size, 1, none⟩ (.slice aq12 td.ns.length cq12) = w21 at HB21 ⊢
                obtain ⟨x0, x1, x2, x3⟩ := HB21.out.tb.all
                go_wp2_with fail
                refine (HB21.out.s.turn (by rw [LA.out.2.2]; exact hl1) s HTT.out).mono ?_
                rintro e' wq13 ⟨vq13, rfl, sq13⟩
                rw [← HTF.out] at sq13 ⊢
                obtain ⟨aq13, cq13, rfl, -, -⟩ := sq13.nd.len
                have SQ13 := Lib.hid sq13
                clear sq13
                have HF := Lib.hid (HB21.out.fst SQ13.out ((HL0.out.trans HLN.out.symm).trans LA.out.2.2.symm))
                obtain ⟨y0, y1, y2, y3⟩ := HB21.out.fstc SQ13.out
                clear x0 x1 x2 x3  HB21
                go_wp2
                obtain ⟨z0, z1, -, -⟩ := HF.out.rb.all
                exact bodyPost_ret (v := .agg #[.int .i64 t'.root, .slice aq13 t'.ns.length cq13]) (by simp [results, Try.results45, go_sem, z0, z1]) rfl ⟨_, rfl, HF.out.nd, HF.out.bl, HF.out.dj⟩
          · rw [rn]
            have HNR := Lib.hid hnr
            have HTN := Lib.hid htn
            have RF := Lib.hid rf
            obtain ⟨te, ee⟩ : ∃ te, t1.paint nr false = te := ⟨_, rfl⟩
            obtain ⟨tf, ef⟩ : ∃ tf, te.paint q true = tf := ⟨_, rfl⟩
            obtain ⟨tg, eg⟩ : ∃ tg, tf.turn q (!s) = tg := ⟨_, rfl⟩
            rw [ee, ef, eg] at hsf
            rw [ee, ef] at HTN
            have LE : Hid (te.ns.length = t1.ns.length ∧ tf.ns.length = t1.ns.length ∧ tg.ns.length = t1.ns.length) := Lib.hid (by rw [← eg, turn_len, ← ef, paint_len, ← ee, paint_len]; exact ⟨(rfl : t1.ns.length = t1.ns.length), (rfl : t1.ns.length = t1.ns.length), (rfl : t1.ns.length = t1.ns.length)⟩)
            have EE := Lib.hid (And.intro ee (And.intro ef eg))
            obtain ⟨vf, ff, -, ef1, hvf, ef2, hff, htt, htf⟩ := hsf
            have EF1 := Lib.hid ef1
            have EF2 := Lib.hid ef2
            have HVF := Lib.hid hvf
            have HFF := Lib.hid hff
            have HTT := Lib.hid htt
            have HTF := Lib.hid htf
            clear rn hnr htn rf ee ef eg ef1 hvf ef2 hff htt htf HWS
            obtain ⟨x0, x1, x2, x3⟩ := HB12.out.tb.all
            go_wp2_with fail
            refine (rred_at HB12.out.nd OKF.out).mono ?_
            rintro e' w13 ⟨rfl, hgg⟩
            rw [RF.out]
            have HB13 := Lib.hid (HB12.out.gr hgg)
            clear x0 x1 x2 x3 hgg HB12
            obtain ⟨x0, x1, x2, x3⟩ := HB13.out.tb.all
            go_wp2_with fail
            refine (HB13.out.s.paint (by rw [(rfl : t1.ns.length = t1.ns.length)]; exact hl1) HNR.out false).mono ?_
            rintro e' wq3 ⟨vq3, rfl, sq3⟩
            rw [EE.out.1] at sq3 ⊢
            obtain ⟨aq3, cq3, rfl, -, -⟩ := sq3.nd.len
            have SQ3 := Lib.hid sq3
            clear sq3
            go_wp2_with fail
            refine (SQ3.out.paint (by rw [LE.out.1]; exact hl1) ((has_len (LE.out.1.trans ((rfl : t1.ns.length = t1.ns.length)).symm)).2 HVQ.out) true).mono ?_
            rintro e' wq4 ⟨vq4, rfl, sq4⟩
            rw [EE.out.2.1] at sq4 ⊢
            obtain ⟨aq4, cq4, rfl, -, -⟩ := sq4.nd.len
            have SQ4 := Lib.hid sq4
            clear sq4
            go_wp2_with fail
            refine (SQ4.out.turn (by rw [LE.out.2.1]; exact hl1) (!s) HTN.out).mono ?_
            rintro e' wq5 ⟨vq5, rfl, sq5⟩
            rw [EE.out.2.2] at sq5 ⊢
            obtain ⟨aq5, cq5, rfl, -, -⟩ := sq5.nd.len
            have SQ5 := Lib.hid sq5
            clear sq5
            have HB14 := Lib.hid (HB13.out.st SQ5.out (LE.out.2.2.trans ((rfl : t1.ns.length = t1.ns.length)).symm))
            obtain ⟨y0, y1, y2, y3⟩ := HB13.out.stc SQ5.out
            clear x0 x1 x2 x3 SQ3 SQ4 HB13
            go_upto_region 14 with fail
            clear y0 y1 y2 y3
            generalize (wq5.setCell ⟨W.heap.size, 0, none⟩ (.int .i64 tg.root)).setCell ⟨W.heap.size, 1, none⟩ (.slice aq5 tg.ns.length cq5) = w14 at HB14 ⊢
            obtain ⟨x0, x1, x2, x3⟩ := HB14.out.tb.all
            go_wp2_with fail
            refine (rkid_at HB14.out.nd ((has_len LE.out.2.2).2 HX.out) (!s)).mono ?_
            rintro e' w15 ⟨rfl, hgg⟩
            rw [EF1.out]
            have HB15 := Lib.hid (HB14.out.gr hgg)
            clear x0 x1 x2 x3 hgg HB14
            obtain ⟨x0, x1, x2, x3⟩ := HB15.out.tb.all
            go_wp2_with fail
            refine (rkid_at HB15.out.nd HVF.out (!s)).mono ?_
            rintro e' w16 ⟨rfl, hgg⟩
            rw [EF2.out]
            have HB16 := Lib.hid (HB15.out.gr hgg)
            clear x0 x1 x2 x3 hgg HB15
            obtain ⟨ta, ea⟩ : ∃ ta, tg.paint vf (tg.nd kp).red = ta := ⟨_, rfl⟩
            obtain ⟨tc, ec⟩ : ∃ tc, ta.paint kp false = tc := ⟨_, rfl⟩
            obtain ⟨td, ed⟩ : ∃ td, tc.paint ff false = td := ⟨_, rfl⟩
            rw [ea, ec, ed] at HTT
            rw [ea, ec, ed] at HTF
            have LA : Hid (ta.ns.length = t1.ns.length ∧ tc.ns.length = t1.ns.length ∧ td.ns.length = t1.ns.length) := Lib.hid (by rw [← ed, paint_len, ← ec, paint_len, ← ea, paint_len]; exact ⟨LE.out.2.2, LE.out.2.2, LE.out.2.2⟩)
            have EA := Lib.hid (And.intro ea (And.intro ec ed))
            clear ea ec ed
            have hkb : kp < tg.ns.length := by rw [LE.out.2.2]; exact hkp
            obtain ⟨nbr, offr, capr, her, hr1, hr2, -⟩ := HB16.out.nd.at hkb
            simp only [Value.slice.injEq] at her
            obtain ⟨rfl, -, rfl⟩ := her
            unfold maxLen at hr2
            obtain ⟨cr, hcr⟩ : ∃ cr, (tg.nd kp).red = cr := ⟨_, rfl⟩
            have HCR := Lib.hid hcr
            rw [hcr] at EA
            clear hcr
            go_upto_region 16 with fail
            obtain ⟨x0, x1, x2, x3⟩ := HB16.out.tb.all
            have r1 := HB16.out.nd.redc hkb
            rw [HCR.out] at r1
            have HPA : Hid (Calls Try.prog 44 #[.agg #[.int .i64 tg.root, .slice (some ⟨nbr, offr, none⟩) tg.ns.length cq5], .int .i64 vf, .bool cr] w16.drew (Rs w16.drew (.slice (some ⟨nbr, offr, none⟩) tg.ns.length cq5) ta)) := Lib.hid (by
              have h1 := (HB16.out.gr (Gr.drew w16 1)).s.paint (by rw [LE.out.2.2]; exact hl1) HVF.out cr
              rw [EA.out.1] at h1
              exact h1)
            have HST : Hid (∀ Y aq cq, St w16.drew (.slice (some ⟨nbr, offr, none⟩) tg.ns.length cq5) ta Y (.slice aq ta.ns.length cq) → Bx W ((Y.setCell ⟨W.heap.size, 0, none⟩ (.int .i64 ta.root)).setCell ⟨W.heap.size, 1, none⟩ (.slice aq ta.ns.length cq)) (.slice a t.ns.length cap) ta (.slice aq ta.ns.length cq)) := Lib.hid (fun Y aq cq hs => (HB16.out.gr (Gr.drew w16 1)).st hs (LA.out.1.trans (LE.out.2.2).symm))
            have HSC : Hid (∀ Y aq cq, St w16.drew (.slice (some ⟨nbr, offr, none⟩) tg.ns.length cq5) ta Y (.slice aq ta.ns.length cq) → Y.cell? ⟨W.heap.size, 0, none⟩ = some (.int .i64 tg.root) ∧ Y.cell? ⟨W.heap.size, 1, none⟩ = some (.slice (some ⟨nbr, offr, none⟩) tg.ns.length cq5) ∧ Y.frozen? ⟨W.heap.size, 0, none⟩ = false ∧ Y.frozen? ⟨W.heap.size, 1, none⟩ = false) := Lib.hid (fun Y aq cq hs => (HB16.out.gr (Gr.drew w16 1)).stc hs)
            clear HB16
            go_region_law (first
              | (go_simp; go_at_call 44; refine HPA.out.mono ?_; rintro e' wq10 ⟨vq10, rfl, sq10⟩; obtain ⟨aq10, cq10, rfl, -, -⟩ := sq10.nd.len; obtain ⟨y0, y1, y2, y3⟩ := HSC.out _ _ _ sq10))
            all_goals
              have HB20 := Lib.hid (HST.out _ _ _ sq10)
              clear x0 x1 x2 x3 y0 y1 y2 y3 r1 sq10 HPA HST HSC
              generalize (wq10.setCell ⟨W.heap.size, 0, none⟩ (.int .i64 ta.root)).setCell ⟨W.heap.size, 1, none⟩ (.slice aq10 ta.ns.length cq10) = w20 at HB20 ⊢
              obtain ⟨x0, x1, x2, x3⟩ := HB20.out.tb.all
              go_wp2_with fail
              refine (HB20.out.s.paint (by rw [LA.out.1]; exact hl1) ((has_len LA.out.1).2 HX.out) false).mono ?_
              rintro e' wq11 ⟨vq11, rfl, sq11⟩
              rw [EA.out.2.1] at sq11 ⊢
              obtain ⟨aq11, cq11, rfl, -, -⟩ := sq11.nd.len
              have SQ11 := Lib.hid sq11
              clear sq11
              go_wp2_with fail
              refine (SQ11.out.paint (by rw [LA.out.2.1]; exact hl1) ((has_len (LA.out.2.1.trans (LE.out.2.2).symm)).2 HFF.out) false).mono ?_
              rintro e' wq12 ⟨vq12, rfl, sq12⟩
              rw [EA.out.2.2] at sq12 ⊢
              obtain ⟨aq12, cq12, rfl, -, -⟩ := sq12.nd.len
              have SQ12 := Lib.hid sq12
              clear sq12
              have HB21 := Lib.hid (HB20.out.st SQ12.out (LA.out.2.2.trans LA.out.1.symm))
              obtain ⟨y0, y1, y2, y3⟩ := HB20.out.stc SQ12.out
              clear x0 x1 x2 x3 SQ11 HB20
              go_upto_region 18 with fail
              clear y0 y1 y2 y3
              generalize (wq12.setCell ⟨W.heap.size, 0, none⟩ (.int .i64 td.root)).setCell ⟨W.heap.size, 1, none⟩ (.slice aq12 td.ns.length cq12) = w21 at HB21 ⊢
              obtain ⟨x0, x1, x2, x3⟩ := HB21.out.tb.all
              go_wp2_with fail
              refine (HB21.out.s.turn (by rw [LA.out.2.2]; exact hl1) s HTT.out).mono ?_
              rintro e' wq13 ⟨vq13, rfl, sq13⟩
              rw [← HTF.out] at sq13 ⊢
              obtain ⟨aq13, cq13, rfl, -, -⟩ := sq13.nd.len
              have SQ13 := Lib.hid sq13
              clear sq13
              have HF := Lib.hid (HB21.out.fst SQ13.out ((HL0.out.trans HLN.out.symm).trans LA.out.2.2.symm))
              obtain ⟨y0, y1, y2, y3⟩ := HB21.out.fstc SQ13.out
              clear x0 x1 x2 x3  HB21
              go_wp2
              obtain ⟨z0, z1, -, -⟩ := HF.out.rb.all
              exact bodyPost_ret (v := .agg #[.int .i64 t'.root, .slice aq13 t'.ns.length cq13]) (by simp [results, Try.results45, go_sem, z0, z1]) rfl ⟨_, rfl, HF.out.nd, HF.out.bl, HF.out.dj⟩
          · rw [rn]
            have RF := Lib.hid rf
            obtain ⟨th, eh⟩ : ∃ th, t1.paint q true = th := ⟨_, rfl⟩
            rw [eh] at hpu rest
            have EH := Lib.hid eh
            have LH : Hid (th.ns.length = t1.ns.length) := Lib.hid (by rw [← eh, paint_len]; try exact (rfl : t1.ns.length = t1.ns.length))
            have HPU := Lib.hid hpu
            have HRS := Lib.hid rest
            clear rn rf eh hpu rest HWS
            obtain ⟨x0, x1, x2, x3⟩ := HB12.out.tb.all
            go_wp2_with fail
            refine (rred_at HB12.out.nd OKF.out).mono ?_
            rintro e' w13 ⟨rfl, hgg⟩
            rw [RF.out]
            have HB13 := Lib.hid (HB12.out.gr hgg)
            clear x0 x1 x2 x3 hgg HB12
            obtain ⟨x0, x1, x2, x3⟩ := HB13.out.tb.all
            go_wp2_with fail
            refine (HB13.out.s.paint (by rw [(rfl : t1.ns.length = t1.ns.length)]; exact hl1) HVQ.out true).mono ?_
            rintro e' wq3 ⟨vq3, rfl, sq3⟩
            rw [EH.out] at sq3 ⊢
            obtain ⟨aq3, cq3, rfl, -, -⟩ := sq3.nd.len
            have SQ3 := Lib.hid sq3
            clear sq3
            have HB14 := Lib.hid (HB13.out.st SQ3.out (LH.out.trans ((rfl : t1.ns.length = t1.ns.length)).symm))
            obtain ⟨y0, y1, y2, y3⟩ := HB13.out.stc SQ3.out
            clear x0 x1 x2 x3  HB13
            go_upto_region 10 with fail
            clear y0 y1 y2 y3
            generalize (wq3.setCell ⟨W.heap.size, 0, none⟩ (.int .i64 th.root)).setCell ⟨W.heap.size, 1, none⟩ (.slice aq3 th.ns.length cq3) = w14 at HB14 ⊢
            obtain ⟨x0, x1, x2, x3⟩ := HB14.out.tb.all
            go_wp2_with fail
            refine (rside_at HB14.out.nd ((has_len LH.out).2 HX.out) HPU.out).mono ?_
            rintro e' w15 ⟨rfl, hgg⟩
            have HB15 := Lib.hid (HB14.out.gr hgg)
            clear x0 x1 x2 x3 hgg HB14
            have hkh : kp < th.ns.length := by rw [LH.out]; exact hkp
            obtain ⟨nbr, offr, capr, her, hr1, hr2, -⟩ := HB15.out.nd.at hkh
            simp only [Value.slice.injEq] at her
            obtain ⟨rfl, -, rfl⟩ := her
            unfold maxLen at hr2
            obtain ⟨x0, x1, x2, x3⟩ := HB15.out.tb.all
            have m5 := HB15.out.nd.upc hkh
            go_wp2
            go_roundg (gk - 1)
            case measure => omega
            case rel => exact ⟨th, _, _, _, rfl, rfl, Lib.hid ⟨HB15.out, LH.out.trans HLN.out, HRS.out⟩⟩
end Go.Proofs.Ytgjacmkedgbneaa
