/-
  Contracts of tree's rightBy, Right, Walk, First and Height.
-/
import Derived.Test.YtgjacmkedgbneaaTwJ
import Derived.Test.YtgjacmkedgbneaaTwL
import Derived.Test.YtgjacmkedgbneaaPlA
import Derived.Test.YtgjacmkedgbneaaKyE
namespace Go.Proofs.Ytgjacmkedgbneaa
open Go.RowKit Go.Sort Wd Tn Ky Tr

theorem Nds.us {w : World} {v : Value} {l : List N} (h : Nds w v l) : ∀ x ∈ l, U x.v := by
  obtain ⟨a, cap, rfl, hm, h, hc⟩ := h
  exact h
theorem Tp.kin {w : World} {pb : Nat} {v : Value} {t : T} (hT : Tp w pb v t) {b : B} (hb : Whole t b) : ∀ x ∈ b.keys, Kin x := Sub.keyU hT.2.2.us hb.len hb.sub

set_option maxHeartbeats 1000000 in
theorem rightBy_at {W : World} {pb : Nat} {v : Value} {t : T} (hT : Tp W pb v t) (m : Int) (r : Bool) (hr : r = true ↔ RightP m t) :
    Calls Try.prog 32 #[.pointer (some ⟨pb, 0, none⟩), .int .u64 m] W fun e w' => e = .returned (.bool r) ∧ Below W.heap.size W w' := by
  have HWH := Lib.hid (whole_at hT)
  by_cases hw : wholeP t
  · rw [decide_eq_true hw] at HWH
    obtain ⟨b, hb⟩ := (whole_iff t).1 hw
    rw [rightP_iff hb] at hr
    have HT := Lib.hid hT
    have HB := Lib.hid hb
    have HRED : Hid (∀ X, Below W.heap.size W X → Calls Try.prog 57 #[.pointer (some ⟨pb, 0, none⟩), .int .i64 t.root] X fun e w' => e = .returned (.bool b.isRed) ∧ X = w') := Lib.hid (fun X hX => by rw [hb.root, ← hb.sub.red]; exact red_at (hT.below hX) hb.sub.ok)
    have HRT : Hid (∀ X, Below W.heap.size W X → X.cell? ⟨pb, 0, none⟩ = some (.int .i64 t.root)) := Lib.hid (fun X hX => (hT.below hX).1)
    have HWK : Hid (∀ X, Below W.heap.size W X → Calls Try.prog 51 #[.pointer (some ⟨pb, 0, none⟩), .int .i64 t.root, .slice none 0 0] X fun e w' => (∃ vs', e = .returned vs' ∧ Keys w' vs' b.keys) ∧ Below W.heap.size W w') := Lib.hid (fun X hX => by
      rw [hb.root]
      have := walk_at hT b (-1) X (.slice none 0 0) [] hb.sub (hT.kin hb) (OwnK.nil X _ _) hX (by have := hb.size; simp; omega)
      refine this.mono ?_
      rintro e w' ⟨⟨vs', rfl, hO⟩, hB⟩
      exact ⟨⟨vs', rfl, by simpa using hO.keys (by simpa using hT.kin hb)⟩, hB⟩)
    have HPL : Hid (∀ X, Below W.heap.size W X → Calls Try.prog 59 #[.pointer (some ⟨pb, 0, none⟩), .int .i64 t.root] X fun e w' => e = .returned (.tuple #[.int .i64 b.plain.1, .bool b.plain.2]) ∧ Gr X w') := Lib.hid (fun X hX => by rw [hb.root]; exact plain_at b (-1) X (hT.below hX) hb.sub (by have := hb.size; omega))
    have HLEN := Lib.hid hb.size
    clear hT hb hw
    unfold RightB at hr
    generalize t.root = x at HRED HRT HWK HPL
    go_enter Try.func32, Try.ntmps32
    go_wp2_with fail
    refine HWH.out.mono ?_
    rintro e' w1 ⟨rfl, hB1⟩
    have c0 := HRT.out w1 hB1
    have HR1 := Lib.hid (HRED.out w1 hB1)
    have HB1 := Lib.hid hB1
    clear hB1 HWH
    go_wp2_with fail
    refine HR1.out.mono ?_
    rintro e' w' ⟨rfl, rfl⟩
    clear HR1
    cases hred : b.isRed with
    | true =>
      obtain rfl : r = false := by
        have : ¬ r = true := fun h => by have := (hr.1 h).1; rw [hred] at this; cases this
        simpa using this
      clear hr hred
      go_wp2
      go_ret
      exact ⟨rfl, HB1.out⟩
    | false =>
      have HWK1 := Lib.hid (HWK.out w1 HB1.out)
      have HRR := Lib.hid hr
      rw [hred] at HRR
      clear hr hred
      go_wp2_with fail
      refine HWK1.out.mono ?_
      rintro e' w2 ⟨⟨vs, rfl, hK⟩, hB2⟩
      have HSO := Lib.hid (sorted_any m hK (by have := HLEN.out; omega))
      have HB2 := Lib.hid hB2
      clear HWK1 hK hB2 c0 HB1
      go_wp2_with fail
      refine HSO.out.mono ?_
      rintro e' w3 ⟨rfl, hb3⟩
      have HB3 := Lib.hid (HB2.out.trans (hb3.mono HB2.out.size))
      clear HSO hb3 HB2
      by_cases hok : okK m b.keys
      · rw [decide_eq_true hok]
        have HV : Hid (r = b.plain.2) := Lib.hid (by
          have := HRR.out
          cases hp : b.plain.2
          · have : ¬ r = true := fun h => by have := (HRR.out.1 h).2.2; rw [hp] at this; cases this
            simpa using this
          · exact HRR.out.2 ⟨by trivial, hok, hp⟩)
        have c0 := HRT.out w3 HB3.out
        have HP3 := Lib.hid (HPL.out w3 HB3.out)
        clear hok HRR
        generalize b.plain = pp at HP3 HV
        obtain ⟨p1, p2⟩ := pp
        go_wp2_with fail
        refine HP3.out.mono ?_
        rintro e' w4 ⟨rfl, hg4⟩
        have HB4 := Lib.hid (HB3.out.trans (hg4.below.mono HB3.out.size))
        clear HP3 hg4 c0
        go_wp2
        go_ret
        exact ⟨by rw [HV.out]; rfl, HB4.out⟩
      · rw [decide_eq_false hok]
        obtain rfl : r = false := by
          have : ¬ r = true := fun h => hok (HRR.out.1 h).2.1
          simpa using this
        clear hok
        go_wp2
        go_ret
        exact ⟨rfl, HB3.out⟩
  · rw [decide_eq_false hw] at HWH
    obtain rfl : r = false := by
      have : ¬ r = true := fun h => by obtain ⟨b, hb, -⟩ := hr.1 h; exact hw ((whole_iff t).2 ⟨b, hb⟩)
      simpa using this
    clear hr hw hT
    go_enter Try.func32, Try.ntmps32
    go_wp2_with fail
    refine HWH.out.mono ?_
    rintro e' w1 ⟨rfl, hB1⟩
    have HB1 := Lib.hid hB1
    clear hB1 HWH
    go_wp2
    go_ret
    exact ⟨rfl, HB1.out⟩

/-- A tree by value. -/
def tv (t : T) (v : Value) : Value := .agg #[.int .i64 t.root, v]
/-- A local copy of it. -/
theorem Tp.copy {W w : World} {v : Value} {t : T} (hN : Nds W v t.ns) (hB : Below W.heap.size W w) (ty : TypeId) : Tp (w.alloc (.cells #[.int .i64 t.root, v] ty)) w.heap.size v t :=
  ⟨by rw [cell_atA]; rfl, by rw [cell_atA]; rfl, hN.below (hB.alloc hB.size _)⟩

theorem Right_at {W : World} {v : Value} {t : T} (hN : Nds W v t.ns) (m : Int) (r : Bool) (hr : r = true ↔ RightP m t) :
    Calls Try.prog 18 #[tv t v, .int .u64 m] W fun e w' => e = .returned (.bool r) ∧ Below W.heap.size W w' := by
  have HB1 : Hid (Below W.heap.size W (W.alloc (.cells #[.int .i64 t.root, v] 24))) := Lib.hid ((Below.refl _ _).alloc (Nat.le_refl _) _)
  have HT := Lib.hid (Tp.copy hN HB1.out 58)
  have HB2 := Lib.hid (HB1.out.alloc HB1.out.size (.cells #[.int .i64 t.root, v] 58))
  have HRB := Lib.hid (rightBy_at HT.out m r hr)
  rw [show (W.alloc (.cells #[.int .i64 t.root, v] 24)).heap.size = W.heap.size + 1 by simp] at HRB
  obtain ⟨a, cap, rfl, hc1, hc2⟩ := hN.len
  unfold tv
  clear hN hr HT
  go_enter Try.func18, Try.ntmps18
  go_wp2_with fail
  refine HRB.out.mono ?_
  rintro e' w1 ⟨rfl, hB⟩
  have HF := Lib.hid (HB2.out.trans (hB.mono HB2.out.size))
  clear HRB hB
  go_wp2
  go_ret
  exact ⟨rfl, HF.out⟩

/-- What Walk tells: the keys of a whole tree; nothing of another. -/
def IsWalk (t : T) (l : List K) : Prop := (∃ b, Whole t b ∧ l = b.keys) ∨ (¬ wholeP t ∧ l = [])
set_option maxHeartbeats 1000000 in
theorem Walk_at {W : World} {v : Value} {t : T} (hN : Nds W v t.ns) {l : List K} (hl : IsWalk t l) :
    Calls Try.prog 21 #[tv t v] W fun e w' => (∃ vs, e = .returned vs ∧ Keys w' vs l) ∧ Below W.heap.size W w' := by
  have HB1 : Hid (Below W.heap.size W (W.alloc (.cells #[.int .i64 t.root, v] 24))) := Lib.hid ((Below.refl _ _).alloc (Nat.le_refl _) _)
  have HT := Lib.hid (Tp.copy hN HB1.out 58)
  have HB2 := Lib.hid (HB1.out.alloc HB1.out.size (.cells #[.int .i64 t.root, v] 58))
  have HWH := Lib.hid (whole_at HT.out)
  rw [show (W.alloc (.cells #[.int .i64 t.root, v] 24)).heap.size = W.heap.size + 1 by simp] at HT HWH
  obtain ⟨a, cap, rfl, hc1, hc2⟩ := hN.len
  unfold tv
  rcases hl with ⟨b, hb, rfl⟩ | ⟨hno, rfl⟩
  · rw [decide_eq_true ((whole_iff t).2 ⟨b, hb⟩)] at HWH
    have HWB := Lib.hid hb
    have HKI := Lib.hid (HT.out.kin hb)
    clear hN hb
    go_enter Try.func21, Try.ntmps21
    go_wp2_with fail
    generalize (W.alloc (.cells #[.int .i64 t.root, .slice a t.ns.length cap] 24)).alloc (.cells #[.int .i64 t.root, .slice a t.ns.length cap] 58) = w2 at HT HB2 HWH ⊢
    refine HWH.out.mono ?_
    rintro e' w3 ⟨rfl, hB3⟩
    have c0 := (HT.out.below hB3).1
    have HB3 := Lib.hid hB3
    have HWK := Lib.hid (walk_at HT.out b (-1) w3 (.slice none 0 0) [] HWB.out.sub HKI.out (OwnK.nil w3 _ _) hB3 (by have := HWB.out.size; simp; omega))
    rw [← HWB.out.root] at HWK
    generalize t.root = x at c0 HWK
    clear hB3 HWH HT
    go_wp2_with fail
    refine HWK.out.mono ?_
    rintro e' w4 ⟨⟨vs, rfl, hO⟩, hB4⟩
    have HF := Lib.hid (And.intro (hO.keys (by simpa using HKI.out)) (HB2.out.trans (hB4.mono HB2.out.size)))
    clear HWK hO hB4 c0
    go_wp2
    go_ret
    exact ⟨⟨vs, rfl, by simpa using HF.out.1⟩, HF.out.2⟩
  · rw [decide_eq_false hno] at HWH
    clear hN hno
    go_enter Try.func21, Try.ntmps21
    go_wp2_with fail
    refine HWH.out.mono ?_
    rintro e' w3 ⟨rfl, hB3⟩
    have HF := Lib.hid (HB2.out.trans (hB3.mono HB2.out.size))
    clear HWH hB3
    go_wp2
    go_ret
    exact ⟨⟨.slice none 0 0, rfl, nil_keys _⟩, HF.out⟩

theorem Height_at {W : World} {v : Value} {t : T} (hN : Nds W v t.ns) {n : Nat} (hn : (∃ b, Whole t b ∧ n = b.high) ∨ (¬ wholeP t ∧ n = 0)) :
    Calls Try.prog 23 #[tv t v] W fun e w' => e = .returned (.int .i64 n) ∧ Below W.heap.size W w' := by
  have HB1 : Hid (Below W.heap.size W (W.alloc (.cells #[.int .i64 t.root, v] 24))) := Lib.hid ((Below.refl _ _).alloc (Nat.le_refl _) _)
  have HT := Lib.hid (Tp.copy hN HB1.out 58)
  have HB2 := Lib.hid (HB1.out.alloc HB1.out.size (.cells #[.int .i64 t.root, v] 58))
  have HWH := Lib.hid (whole_at HT.out)
  rw [show (W.alloc (.cells #[.int .i64 t.root, v] 24)).heap.size = W.heap.size + 1 by simp] at HT HWH
  obtain ⟨a, cap, rfl, hc1, hc2⟩ := hN.len
  unfold tv
  rcases hn with ⟨b, hb, rfl⟩ | ⟨hno, rfl⟩
  · rw [decide_eq_true ((whole_iff t).2 ⟨b, hb⟩)] at HWH
    have HWB := Lib.hid hb
    clear hN hb
    go_enter Try.func23, Try.ntmps23
    go_wp2_with fail
    generalize (W.alloc (.cells #[.int .i64 t.root, .slice a t.ns.length cap] 24)).alloc (.cells #[.int .i64 t.root, .slice a t.ns.length cap] 58) = w2 at HT HB2 HWH ⊢
    refine HWH.out.mono ?_
    rintro e' w3 ⟨rfl, hB3⟩
    have c0 := (HT.out.below hB3).1
    have HB3 := Lib.hid hB3
    have HWK := Lib.hid (height_at b (-1) w3 (HT.out.below hB3) HWB.out.sub (by have := HWB.out.size; have := B.high_le b; omega))
    rw [← HWB.out.root] at HWK
    generalize t.root = x at c0 HWK
    clear hB3 HWH HT
    go_wp2_with fail
    refine HWK.out.mono ?_
    rintro e' w4 ⟨rfl, q, rfl⟩
    have HF := Lib.hid ((HB2.out.trans (HB3.out.mono HB2.out.size)).trans ((Gr.drew w3 q).below.mono (Nat.le_trans HB2.out.size HB3.out.size)))
    clear HWK c0
    generalize w3.drewN q = w4 at HF ⊢
    go_wp2
    go_ret
    exact ⟨rfl, HF.out⟩
  · rw [decide_eq_false hno] at HWH
    clear hN hno
    go_enter Try.func23, Try.ntmps23
    go_wp2_with fail
    refine HWH.out.mono ?_
    rintro e' w3 ⟨rfl, hB3⟩
    have HF := Lib.hid (HB2.out.trans (hB3.mono HB2.out.size))
    clear HWH hB3
    go_wp2
    go_ret
    exact ⟨rfl, HF.out⟩

theorem First_at {W : World} {v : Value} {t : T} (hN : Nds W v t.ns) {l : List K} (hl : IsWalk t l) :
    Calls Try.prog 16 #[tv t v] W fun e w' => e = .returned (.tuple #[.agg #[.int .u64 (l.headD (0, 0)).1, .int .i64 (l.headD (0, 0)).2], .bool (!l.isEmpty)]) ∧ Below W.heap.size W w' := by
  have HB1 : Hid (Below W.heap.size W (W.alloc (.cells #[.int .i64 t.root, v] 24))) := Lib.hid ((Below.refl _ _).alloc (Nat.le_refl _) _)
  have HB2 := Lib.hid (HB1.out.alloc HB1.out.size (.cells #[.int .u64 0, .int .i64 0] 27))
  have HWK := Lib.hid (Walk_at (hN.below HB2.out) hl)
  have HKB : Hid (Kb ((W.alloc (.cells #[.int .i64 t.root, v] 24)).alloc (.cells #[.int .u64 0, .int .i64 0] 27)) (W.heap.size + 1) (0, 0)) := Lib.hid (by
    have := Kb.new (W.alloc (.cells #[.int .i64 t.root, v] 24)) (0, 0)
    rw [show (W.alloc (.cells #[.int .i64 t.root, v] 24)).heap.size = W.heap.size + 1 by simp] at this
    exact this)
  obtain ⟨a, cap, rfl, hc1, hc2⟩ := hN.len
  unfold tv at HWK ⊢
  clear hN hl
  cases l with
  | nil =>
    go_enter Try.func16, Try.ntmps16
    go_wp2_with fail
    refine HWK.out.mono ?_
    rintro e' w3 ⟨⟨vs, rfl, hK⟩, hB3⟩
    rcases hK.parts with ⟨-, a3, cap3, rfl⟩ | ⟨h0, _⟩
    · obtain ⟨g0, g1, g2, g3, g4⟩ := (HKB.out.below hB3 HKB.out.lt).all
      have HF := Lib.hid ((HB2.out.trans (hB3.mono HB2.out.size)))
      have HKS := Lib.hid ((HKB.out.below hB3 HKB.out.lt).store (0, 0)).all
      have HFS := Lib.hid ((HF.out.setCell (p := ⟨W.heap.size + 1, 0, none⟩) (by show W.heap.size ≤ W.heap.size + 1; omega) (.int .u64 0)).setCell (p := ⟨W.heap.size + 1, 1, none⟩) (by show W.heap.size ≤ W.heap.size + 1; omega) (.int .i64 0))
      clear HWK hK hB3 HKB
      go_wp2
      obtain ⟨s0, s1, -⟩ := HKS.out
      exact bodyPost_ret (v := .tuple #[.agg #[.int .u64 0, .int .i64 0], .bool false]) (by simp [results, Try.results16, go_sem, s0, s1]) rfl ⟨rfl, HFS.out⟩
    · simp at h0
  | cons x l =>
    go_enter Try.func16, Try.ntmps16
    go_wp2_with fail
    refine HWK.out.mono ?_
    rintro e' w3 ⟨⟨vs, rfl, hK⟩, hB3⟩
    rcases hK.parts with ⟨h0, _⟩ | ⟨h0, b3, off3, cap3, rfl, hcap3, -, hc⟩
    · cases h0
    · obtain ⟨g0, g1, g2, g3, g4⟩ := (HKB.out.below hB3 HKB.out.lt).all
      obtain ⟨x0, x1⟩ := hc 0 h0
      rw [Nat.zero_mul, Nat.add_zero] at x0 x1
      change w3.cell? _ = some (.int .u64 x.1) at x0
      change w3.cell? _ = some (.int .i64 x.2) at x1
      have hne : (((x :: l).length : Int) == 0) = false := by rw [beq_eq_false_iff_ne]; simp; omega
      have HF := Lib.hid ((HB2.out.trans (hB3.mono HB2.out.size)))
      have HKS := Lib.hid ((HKB.out.below hB3 HKB.out.lt).store x).all
      have HFS := Lib.hid ((HF.out.setCell (p := ⟨W.heap.size + 1, 0, none⟩) (by show W.heap.size ≤ W.heap.size + 1; omega) (.int .u64 x.1)).setCell (p := ⟨W.heap.size + 1, 1, none⟩) (by show W.heap.size ≤ W.heap.size + 1; omega) (.int .i64 x.2))
      generalize (x :: l).length = ln at *
      unfold maxLen at hcap3
      clear HWK hK hB3 HKB hc
      go_wp2
      obtain ⟨s0, s1, -⟩ := HKS.out
      exact bodyPost_ret (v := .tuple #[.agg #[.int .u64 x.1, .int .i64 x.2], .bool true]) (by simp [results, Try.results16, go_sem, s0, s1]) rfl ⟨rfl, HFS.out⟩
end Go.Proofs.Ytgjacmkedgbneaa
