/-
  Contract of a work's insert.
-/
import Derived.Test.YtgjacmkedgbneaaTwD
import Derived.Test.YtgjacmkedgbneaaPlA
import Derived.Shelf.SlSortCmp.QuietGrown
namespace Go.Proofs.Ytgjacmkedgbneaa
open Go.RowKit Go.Sort Wd Tn Ky Tr

theorem Pb.storeS {p : Wp} {w : World} {q : Nat} {u : Int} {s : Bool} (h : Pb p w q u s) (s' : Bool) : Pb p (w.setCell ⟨q, 1, none⟩ (.int .i64 (sI s'))) q u s' := by
  obtain ⟨h1, h2⟩ := h
  refine ⟨?_, h2⟩
  simp only [World.setCell, Array.getElem?_modify, if_true, h1]
  rfl
theorem Pb.store {p : Wp} {w : World} {q : Nat} {u : Int} {s : Bool} (h : Pb p w q u s) (u' : Int) (s' : Bool) : Pb p ((w.setCell ⟨q, 0, none⟩ (.int .i64 u')).setCell ⟨q, 1, none⟩ (.int .i64 (sI s'))) q u' s' := by
  obtain ⟨h1, h2⟩ := h
  refine ⟨?_, h2⟩
  simp only [World.setCell, Array.getElem?_modify, if_true, h1]
  rfl
/-- A key that the call itself laid. -/
def Kp (p : Wp) (w : World) (q : Nat) (k : K) : Prop := w.heap[q]? = some (.cells #[.int .u64 k.1, .int .i64 k.2] 27 (0, 0)) ∧ q ≠ p.b ∧ q ≠ p.nb
section
variable {p : Wp} {w w' : World} {q : Nat} {k : K}
theorem Kp.new {t : T} (h : Wk p w t) (k : K) : Kp p (w.alloc (.cells #[.int .u64 k.1, .int .i64 k.2] 27)) w.heap.size k :=
  ⟨heap_alloc_new w _, by have := h.lt; omega, by have := h.lt; omega⟩
theorem Kp.lt (h : Kp p w q k) : q < w.heap.size := (Array.getElem?_eq_some_iff.1 h.1).1
theorem Kp.ws (h : Kp p w q k) (hs : Ws p w w') : Kp p w' q k := ⟨(hs.block q h.lt h.2.1 h.2.2).trans h.1, h.2⟩
theorem Kp.gr (h : Kp p w q k) (hg : Gr w w') : Kp p w' q k := h.ws (Ws.of_gr hg)
theorem Kp.other (h : Kp p w q k) {a : Addr} {v : Value} (hne : q ≠ a.block) : Kp p (w.setCell a v) q k := ⟨(Below.heap_setCell _ _ _ _ hne).trans h.1, h.2⟩
theorem Kp.cells (h : Kp p w q k) : w.cell? ⟨q, 0, none⟩ = some (.int .u64 k.1) ∧ w.cell? ⟨q, 1, none⟩ = some (.int .i64 k.2) := by
  refine ⟨?_, ?_⟩ <;> simp [World.cell?, h.1]
end

theorem put_put (t : T) (i : Int) (a b : N) : (t.put i a).put i b = t.put i b := by unfold T.put; simp
/-- A node is stored whole. -/
def setNode (w : World) (nb o : Nat) (n : N) : World :=
  (((((w.setCell ⟨nb, o, none⟩ (.bool n.inn)).setCell ⟨nb, o + 1, none⟩ (.bool n.red)).setCell ⟨nb, o + 2, none⟩ (.int .u64 n.v)).setCell ⟨nb, o + 3, none⟩ (.int .i64 n.l)).setCell ⟨nb, o + 4, none⟩ (.int .i64 n.r)).setCell ⟨nb, o + 5, none⟩ (.int .i64 n.u)
theorem Wk.node {p : Wp} {w : World} {t : T} (h : Wk p w t) {k : Nat} (hk : k < t.ns.length) (n : N) (hu : U n.v) : Wk p (setNode w p.nb (k * 6) n) (t.put k n) := by
  have hh : t.has k := by unfold T.has; omega
  have hv := h.u hk
  have h0 := h.setN hk { t.nd k with inn := n.inn } 0 (by omega) (.bool n.inn) rfl hv
  have l0 : k < (t.put k { t.nd k with inn := n.inn }).ns.length := by rw [put_len]; exact hk
  have h1 := h0.setN l0 { t.nd k with inn := n.inn, red := n.red } 1 (by omega) (.bool n.red) (by rw [nd_put_same hh]; rfl) hv
  rw [put_put] at h1
  have l1 : k < (t.put k { t.nd k with inn := n.inn, red := n.red }).ns.length := by rw [put_len]; exact hk
  have h2 := h1.setN l1 { t.nd k with inn := n.inn, red := n.red, v := n.v } 2 (by omega) (.int .u64 n.v) (by rw [nd_put_same hh]; rfl) hu
  rw [put_put] at h2
  have l2 : k < (t.put k { t.nd k with inn := n.inn, red := n.red, v := n.v }).ns.length := by rw [put_len]; exact hk
  have h3 := h2.setN l2 { t.nd k with inn := n.inn, red := n.red, v := n.v, l := n.l } 3 (by omega) (.int .i64 n.l) (by rw [nd_put_same hh]; rfl) hu
  rw [put_put] at h3
  have l3 : k < (t.put k { t.nd k with inn := n.inn, red := n.red, v := n.v, l := n.l }).ns.length := by rw [put_len]; exact hk
  have h4 := h3.setN l3 { t.nd k with inn := n.inn, red := n.red, v := n.v, l := n.l, r := n.r } 4 (by omega) (.int .i64 n.r) (by rw [nd_put_same hh]; rfl) hu
  rw [put_put] at h4
  have l4 : k < (t.put k { t.nd k with inn := n.inn, red := n.red, v := n.v, l := n.l, r := n.r }).ns.length := by rw [put_len]; exact hk
  have h5 := h4.setN l4 n 5 (by omega) (.int .i64 n.u) (by rw [nd_put_same hh]; rfl) hu
  rw [put_put] at h5
  exact h5
theorem Ws.node {p : Wp} {w w' : World} (h : Ws p w w') (o : Nat) (n : N) : Ws p w (setNode w' p.nb o n) :=
  (((((h.set (q := ⟨p.nb, o, none⟩) (.inr (.inl rfl)) _).set (q := ⟨p.nb, o + 1, none⟩) (.inr (.inl rfl)) _).set (q := ⟨p.nb, o + 2, none⟩) (.inr (.inl rfl)) _).set (q := ⟨p.nb, o + 3, none⟩) (.inr (.inl rfl)) _).set (q := ⟨p.nb, o + 4, none⟩) (.inr (.inl rfl)) _).set (q := ⟨p.nb, o + 5, none⟩) (.inr (.inl rfl)) _

set_option maxHeartbeats 2000000 in
set_option maxRecDepth 100000 in
theorem insert_at {p : Wp} {n n2 : Nat} {w : World} {t t' : T} {m : Int} {k : K} {u : Int} {s : Bool} (h : Wk p w t) (hk : t.has k.2) (hU : U k.1) (hd : Down m k t n t.root (-1) false u s)
    (hm : Mend n2 ((t.put k.2 (nNew k.1)).hang u s k.2) k.2 t') :
    Calls Try.prog 35 #[.pointer (some ⟨p.b, 0, none⟩), .int .u64 m, .agg #[.int .u64 k.1, .int .i64 k.2]] w fun e w' => e = .returned (.tuple #[]) ∧ Wk p w' t' ∧ Ws p w w' := by
  have H0 := Lib.hid (And.intro hk (And.intro hU (And.intro hd hm)))
  have cap2 := h.cap2
  have HW := Lib.hid (h.alloc (.cells #[.int .u64 k.1, .int .i64 k.2] 27))
  have HK := Lib.hid (Kp.new h k)
  have HS : Hid (Ws p w _) := Lib.hid ((Ws.refl p w).alloc (.cells #[.int .u64 k.1, .int .i64 k.2] 27))
  have HLT := Lib.hid h.lt
  clear hk hU hd hm h
  have HP1 := Lib.hid (Pb.new HW.out (-1) false)
  have HW1 := Lib.hid (HW.out.alloc (.cells #[.int .i64 (-1), .int .i64 (sI false)] 91))
  have HS1 := Lib.hid (HS.out.alloc (.cells #[.int .i64 (-1), .int .i64 (sI false)] 91))
  have HK1 := Lib.hid (HK.out.gr (Gr.alloc _ (.cells #[.int .i64 (-1), .int .i64 (sI false)] 91)))
  have hz : sI false = 0 := rfl
  rw [hz] at HP1 HW1 HS1 HK1
  rw [show (w.alloc (.cells #[.int .u64 k.1, .int .i64 k.2] 27)).heap.size = w.heap.size + 1 by simp] at HP1
  have HAT := Lib.hid (at_at HW1.out (u := -1) (.inl rfl) false)
  rw [hz] at HAT
  clear hz HW HK HS
  go_enter Try.func35, Try.ntmps35
  go_wp2_with fail
  generalize hq : w.heap.size = q at HK1 HP1 HLT ⊢
  generalize (w.alloc (.cells #[.int .u64 k.1, .int .i64 k.2] 27)).alloc (.cells #[.int .i64 (-1), .int .i64 0] 91) = w1 at HK1 HP1 HW1 HS1 HAT ⊢
  have HQ := Lib.hid hq
  clear hq
  refine HAT.out.mono ?_
  rintro e' w2 ⟨rfl, hg2⟩
  have HW2 := Lib.hid (HW1.out.gr hg2)
  have HS2 := Lib.hid (HS1.out.trans (Ws.of_gr hg2))
  have HK2 := Lib.hid (HK1.out.gr hg2)
  have HP2 := Lib.hid (HP1.out.ws (Ws.of_gr hg2))
  clear hg2 HW1 HS1 HK1 HP1 HAT
  go_wp2_with fail
  go_loopg [7] n (fun kk i wr => ∃ (x u1 : Int) (s1 : Bool), i = .int .i64 x ∧ Hid (Wk p wr t ∧ Ws p w wr ∧ Kp p wr q k ∧ Pb p wr (q + 1) u1 s1 ∧ Down m k t kk x u1 s1 u s))
  case atStart => exact ⟨t.root, -1, false, rfl, Lib.hid ⟨HW2.out, HS2.out, HK2.out, HP2.out, H0.out.2.2.1⟩⟩
  case round =>
    obtain ⟨x, u1, s1, rfl, HR⟩ := hrel
    obtain ⟨hw, hs, hkp, hpb, hd⟩ := HR.out
    clear HW2 HS2 HK2 HP2 HR
    rcases hd.parts with ⟨rfl, rfl, rfl, hu⟩ | ⟨n', hn', hx, hrest⟩
    · obtain ⟨kc0, kc1⟩ := hkp.cells
      obtain ⟨j, hj0, hj⟩ := has_nat H0.out.1
      have HJ := Lib.hid hj0
      have hjk := hj0
      rw [hj0] at kc1
      have hsl := hw.slc
      have cap1 := hw.cap1
      have hnc := hw.nc hj
      have fr := fun o => hw.frozen o
      obtain ⟨n0, n1, n2', n3, n4, n5⟩ := hnc
      generalize t.nd j = nj at n0 n1 n2' n3 n4 n5
      have HW1 := Lib.hid hw
      have HS1 := Lib.hid hs
      have HK1 := Lib.hid hkp
      have HP1 := Lib.hid hpb
      have HU := Lib.hid hu
      clear hw hs hkp hpb hu hd hj0
      have HW2 := Lib.hid (HW1.out.node hj (nNew k.1) H0.out.2.1).drew
      have HS2 := Lib.hid ((Ws.refl p wr).node (j * 6) (nNew k.1)).drew
      have HM := Lib.hid H0.out.2.2.2
      rw [hjk] at HM
      clear hjk
      obtain ⟨t2, ht2⟩ : ∃ t2, t.put j (nNew k.1) = t2 := ⟨_, rfl⟩
      have HL2 : Hid (t2.ns.length = t.ns.length) := Lib.hid (by rw [← ht2, put_len])
      rw [ht2] at HW2 HM
      clear ht2
      go_wp2_with fail
      go_region
      change Exit.then _ _ _ _ (setNode wr p.nb (j * 6) (nNew k.1)).drew
      have HS3 := Lib.hid (HS1.out.trans HS2.out)
      have HK3 := Lib.hid (HK1.out.ws HS2.out)
      have HP3 := Lib.hid (HP1.out.ws HS2.out)
      clear kc0 kc1 hsl cap1 fr n0 n1 n2' n3 n4 n5 HW1 HS1 HK1 HP1 HS2
      generalize (setNode wr p.nb (j * 6) (nNew k.1)).drew = w3 at HW2 HS3 HK3 HP3 ⊢
      obtain ⟨pc0, pc1, -, -⟩ := HP3.out.cells
      obtain ⟨kc0, kc1⟩ := HK3.out.cells
      rw [HJ.out] at kc1
      have HH := Lib.hid (hang_at HW2.out ((ok_len HL2.out).2 HU.out) (y := j) (.inr (by unfold T.has; have := HL2.out; omega)) s)
      go_wp2_with fail
      refine HH.out.mono ?_
      rintro e' w4 ⟨rfl, hw4, hs4⟩
      have HW4 := Lib.hid hw4
      have HS4 := Lib.hid (HS3.out.trans hs4)
      have HK4 := Lib.hid (HK3.out.ws hs4)
      clear HH hw4 hs4 pc0 pc1 kc0 kc1 HK3 HP3 HW2 HS3
      obtain ⟨kc0, kc1⟩ := HK4.out.cells
      rw [HJ.out] at kc1
      have HMM := Lib.hid (mend_at HW4.out HM.out)
      go_wp2_with fail
      refine HMM.out.mono ?_
      rintro e' w5 ⟨rfl, hw5, hs5⟩
      have HF := Lib.hid (And.intro hw5 (HS4.out.trans hs5))
      clear HMM hw5 hs5
      go_wp2
      go_end0
      exact ⟨rfl, HF.out.1, HF.out.2⟩
    · obtain ⟨j, rfl, hj⟩ := has_nat hx
      have HX := Lib.hid hx
      have HN := Lib.hid (And.intro hn' hrest)
      obtain ⟨pc0, pc1, pf0, pf1⟩ := hpb.cells
      have hqs : wr.heap.size > q + 1 := hpb.lt
      have HP1 := Lib.hid (hpb.store j true)
      have HW1 := Lib.hid ((hw.other (q := ⟨q + 1, 0, none⟩) (v := .int .i64 j) (fun e => hpb.2.1 e.symm) (fun e => hpb.2.2 e.symm)).other (q := ⟨q + 1, 1, none⟩) (v := .int .i64 (sI true)) (fun e => hpb.2.1 e.symm) (fun e => hpb.2.2 e.symm))
      have HS1 := Lib.hid ((hs.set (q := ⟨q + 1, 0, none⟩) (.inr (.inr (by have := HQ.out; show w.heap.size ≤ q + 1; omega))) (.int .i64 j)).set (q := ⟨q + 1, 1, none⟩) (.inr (.inr (by have := HQ.out; show w.heap.size ≤ q + 1; omega))) (.int .i64 (sI true)))
      have HK1 := Lib.hid ((hkp.other (a := ⟨q + 1, 0, none⟩) (v := .int .i64 j) (by show q ≠ q + 1; omega)).other (a := ⟨q + 1, 1, none⟩) (v := .int .i64 (sI true)) (by show q ≠ q + 1; omega))
      rw [show sI true = 1 from rfl] at HP1 HW1 HS1 HK1
      have hnx : ((j : Int) == -1) = false := by rw [beq_eq_false_iff_ne]; omega
      clear hx hn' hrest hpb hw hs hkp hd
      go_wp2_with fail
      generalize (wr.setCell ⟨q + 1, 0, none⟩ (.int .i64 j)).setCell ⟨q + 1, 1, none⟩ (.int .i64 1) = w1 at HP1 HW1 HS1 HK1 ⊢
      clear pc0 pc1 pf0 pf1 hqs hnx
      have fk0 : ∀ n os, (grow (w1.drewN n) os).cell? ⟨q, 0, none⟩ = some (.int .u64 k.1) := fun n os => (HK1.out.gr ⟨n, os, rfl⟩).cells.1
      have fk1 : ∀ n os, (grow (w1.drewN n) os).cell? ⟨q, 1, none⟩ = some (.int .i64 k.2) := fun n os => (HK1.out.gr ⟨n, os, rfl⟩).cells.2
      have hcg1 : ∀ n os, Calls Try.prog 65 #[.pointer (some ⟨p.b, 0, none⟩), .int .i64 j] (grow (w1.drewN n) os) fun e w' => e = .returned (.agg #[.int .u64 (t.nd j).v, .int .i64 j]) ∧ ∃ q' os', w' = grow ((grow (w1.drewN n) os).drewN q') os' := fun n os => key_at (HW1.out.gr ⟨n, os, rfl⟩).tp HX.out
      obtain ⟨b, hb⟩ : ∃ b, ltK m k (t.key j) = b := ⟨_, rfl⟩
      have hcg2 : ∀ n os, Calls Try.prog 64 #[.int .u64 m, .agg #[.int .u64 k.1, .int .i64 k.2], .agg #[.int .u64 (t.nd j).v, .int .i64 j]] (grow (w1.drewN n) os) fun e w' => e = .returned (.bool b) ∧ ∃ q' os', w' = grow ((grow (w1.drewN n) os).drewN q') os' := fun n os => by
        rw [← hb]; exact less_gr m k (t.key j) _
      have HB := Lib.hid hb
      rw [hb] at HN
      generalize (t.nd j).v = vj at hcg1 hcg2
      clear hb
      go_quiet_grown (first | (go_at_call 65; refine Calls.grown_of (hcg1 _ _)) | (go_at_call 64; refine Calls.grown_of (hcg2 _ _)))
      have HW2 := Lib.hid (HW1.out.gr ⟨nq, osq, rfl⟩)
      have HS2 := Lib.hid (HS1.out.trans (Ws.of_gr ⟨nq, osq, rfl⟩))
      have HK2 := Lib.hid (HK1.out.gr ⟨nq, osq, rfl⟩)
      have HP2 := Lib.hid (HP1.out.ws (Ws.of_gr ⟨nq, osq, rfl⟩))
      clear fk0 fk1 hcg1 hcg2 HW1 HS1 HK1 HP1
      generalize grow (w1.drewN nq) osq = w2 at HW2 HS2 HK2 HP2 ⊢
      obtain ⟨pc0, pc1, pf0, pf1⟩ := HP2.out.cells
      cases b with
      | true =>
        have HP3 := Lib.hid (HP2.out.storeS false)
        have HW3 := Lib.hid (HW2.out.other (q := ⟨q + 1, 1, none⟩) (v := .int .i64 0) (fun e => HP2.out.2.1 e.symm) (fun e => HP2.out.2.2 e.symm))
        have HS3 := Lib.hid (HS2.out.set (q := ⟨q + 1, 1, none⟩) (.inr (.inr (by have := HQ.out; show w.heap.size ≤ q + 1; omega))) (.int .i64 0))
        have HK3 := Lib.hid (HK2.out.other (a := ⟨q + 1, 1, none⟩) (v := .int .i64 0) (by show q ≠ q + 1; omega))
        rw [show sI false = 0 from rfl] at HP3
        have HAT := Lib.hid (at_at HW3.out (u := j) (.inr HX.out) false)
        rw [show sI false = 0 from rfl, show t.at j false = t.kid j false by unfold T.at; rw [if_neg (by omega)]] at HAT
        go_wp2_with fail
        refine HAT.out.mono ?_
        rintro e' w4 ⟨rfl, hg4⟩
        have HF := Lib.hid (And.intro (HW3.out.gr hg4) (And.intro (HS3.out.trans (Ws.of_gr hg4)) (And.intro (HK3.out.gr hg4) (HP3.out.ws (Ws.of_gr hg4)))))
        clear HAT hg4 pc0 pc1 pf0 pf1
        go_wp2
        go_roundg n'
        case measure => have := HN.out.1; omega
        case rel => exact ⟨_, _, false, rfl, Lib.hid ⟨HF.out.1, HF.out.2.1, HF.out.2.2.1, HF.out.2.2.2, HN.out.2⟩⟩
      | false =>
        have HAT := Lib.hid (at_at HW2.out (u := j) (.inr HX.out) true)
        rw [show sI true = 1 from rfl, show t.at j true = t.kid j true by unfold T.at; rw [if_neg (by omega)]] at HAT
        rw [show sI true = 1 from rfl] at pc1
        go_wp2_with fail
        refine HAT.out.mono ?_
        rintro e' w4 ⟨rfl, hg4⟩
        have HF := Lib.hid (And.intro (HW2.out.gr hg4) (And.intro (HS2.out.trans (Ws.of_gr hg4)) (And.intro (HK2.out.gr hg4) (HP2.out.ws (Ws.of_gr hg4)))))
        clear HAT hg4 pc0 pc1 pf0 pf1
        go_wp2
        go_roundg n'
        case measure => have := HN.out.1; omega
        case rel => exact ⟨_, _, true, rfl, Lib.hid ⟨HF.out.1, HF.out.2.1, HF.out.2.2.1, HF.out.2.2.2, HN.out.2⟩⟩
end Go.Proofs.Ytgjacmkedgbneaa
