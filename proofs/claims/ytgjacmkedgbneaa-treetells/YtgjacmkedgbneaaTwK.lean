/-
  Contracts of tree's height, plain and walk, of a tree that is as one.
-/
import Derived.Test.YtgjacmkedgbneaaTwA
import Derived.Test.YtgjacmkedgbneaaPlA
import Derived.Deep.RegionHeld3
namespace Go.Proofs.Ytgjacmkedgbneaa
open Go.RowKit Go.Sort Wd Tn Ky Tr

theorem cell_atA (w : World) (vs : Array Value) (ty : TypeId) (i : Nat) : (w.alloc (.cells vs ty)).cell? ⟨w.heap.size, i, none⟩ = vs[i]? := by
  unfold World.cell?
  rw [heap_alloc_new w (.cells vs ty)]
  rfl
set_option maxHeartbeats 1000000 in
theorem height_at {pb : Nat} {v : Value} {t : T} (b : B) : ∀ (u : Int) (w : World), Tp w pb v t → Sub t b u → b.high ≤ 1000 →
    Calls Try.prog 52 #[.pointer (some ⟨pb, 0, none⟩), .int .i64 b.rid] w fun e w' => e = .returned (.int .i64 b.high) ∧ ∃ q, w' = w.drewN q := by
  induction b with
  | L =>
    intro u w hT hS hh
    change Calls Try.prog 52 #[.pointer (some ⟨pb, 0, none⟩), .int .i64 (-1)] w fun e w' => e = .returned (.int .i64 0) ∧ ∃ q, w' = w.drewN q
    clear hT hS hh
    go_enter Try.func52, Try.ntmps52
    go_wp2_with fail
    go_ret
    exact ⟨rfl, 0, rfl⟩
  | N i c v' k ih =>
    intro u w hT hS hh
    obtain ⟨hi, hnd, hL, hR⟩ := hS
    obtain ⟨j, rfl, hj⟩ := has_nat hi
    obtain ⟨nb, off, cap, rfl, hc1, hc2, hn⟩ := hT.node hj
    rw [hnd] at hn
    have c1 := hT.2.1
    have n3 := hn.2.2.2.1
    have n4 := hn.2.2.2.2.1
    have hhl : (k false).high ≤ 1000 ∧ (k true).high ≤ 1000 := by unfold B.high at hh; omega
    have HI1 : Hid (∀ n, Calls Try.prog 52 #[.pointer (some ⟨pb, 0, none⟩), .int .i64 (k false).rid] (w.drewN n) fun e w' => e = .returned (.int .i64 (k false).high) ∧ ∃ q, w' = (w.drewN n).drewN q) := Lib.hid (fun n => ih false j _ (hT.gr (Gr.drew _ n)) hL hhl.1)
    have HI2 : Hid (∀ n, Calls Try.prog 52 #[.pointer (some ⟨pb, 0, none⟩), .int .i64 (k true).rid] (w.drewN n) fun e w' => e = .returned (.int .i64 (k true).high) ∧ ∃ q, w' = (w.drewN n).drewN q) := Lib.hid (fun n => ih true j _ (hT.gr (Gr.drew _ n)) hR hhl.2)
    have HE : Hid ((B.N j c v' k).high = 1 + max (k false).high (k true).high) := Lib.hid rfl
    rw [HE.out]
    change Calls Try.prog 52 #[.pointer (some ⟨pb, 0, none⟩), .int .i64 j] w _
    change w.cell? _ = some (.int .i64 (k false).rid) at n3
    change w.cell? _ = some (.int .i64 (k true).rid) at n4
    generalize (k false).rid = xl at HI1 n3
    generalize (k true).rid = xr at HI2 n4
    generalize (k false).high = hl at HI1 hhl ⊢
    generalize (k true).high = hr at HI2 hhl ⊢
    have hne : ((j : Int) == -1) = false := by rw [beq_eq_false_iff_ne]; omega
    clear hT hnd hn hL hR ih hh hi HE
    obtain ⟨m, hm⟩ : ∃ m, 1 + max hl hr = m := ⟨_, rfl⟩
    rw [hm]
    have HM := Lib.hid hm
    clear hm
    have hw1 : IntKind.i64.wrap (1 + (hr : Int)) = 1 + (hr : Int) := by rw [IntKind.wrap_i64]; omega
    have hw2 : IntKind.i64.wrap (1 + (hl : Int)) = 1 + (hl : Int) := by rw [IntKind.wrap_i64]; omega
    go_enter Try.func52, Try.ntmps52
    go_wp2_with fail
    go_quiet (first | (go_at_call 52; first | (with_reducible refine Calls.quiet_of (HI1.out _)) | (with_reducible refine Calls.quiet_of (HI2.out _))))
    go_wp2
    · go_ret
      refine ⟨?_, nq, rfl⟩
      rw [show (m : Int) = 1 + (hr : Int) by have := HM.out; omega]
      rfl
    · go_ret
      refine ⟨?_, nq, rfl⟩
      rw [show (m : Int) = 1 + (hl : Int) by have := HM.out; omega]
      rfl

set_option maxHeartbeats 2000000 in
theorem plain_at {pb : Nat} {v : Value} {t : T} (b : B) : ∀ (u : Int) (w : World), Tp w pb v t → Sub t b u → b.keys.length ≤ 1000 →
    Calls Try.prog 59 #[.pointer (some ⟨pb, 0, none⟩), .int .i64 b.rid] w fun e w' => e = .returned (.tuple #[.int .i64 b.plain.1, .bool b.plain.2]) ∧ Gr w w' := by
  induction b with
  | L =>
    intro u w hT hS hh
    change Calls Try.prog 59 #[.pointer (some ⟨pb, 0, none⟩), .int .i64 (-1)] w fun e w' => e = .returned (.tuple #[.int .i64 0, .bool true]) ∧ Gr w w'
    clear hT hS hh
    go_enter Try.func59, Try.ntmps59
    go_wp2_with fail
    go_ret2
    exact ⟨rfl, Gr.refl _⟩
  | N i c v' k ih =>
    intro u w hT hS hh
    obtain ⟨hi, hnd, hL, hR⟩ := hS
    obtain ⟨j, rfl, hj⟩ := has_nat hi
    obtain ⟨nb, off, cap, rfl, hc1, hc2, hn⟩ := hT.node hj
    rw [hnd] at hn
    have c1 := hT.2.1
    obtain ⟨n0, n1, n2, n3, n4, n5⟩ := hn
    have hlen : (k false).keys.length ≤ 1000 ∧ (k true).keys.length ≤ 1000 := by simp only [B.keys, List.length_append, List.length_cons] at hh; omega
    have hpl : (k false).plain.1 ≤ 1000 := Nat.le_trans (B.plain_le _) hlen.1
    have HI1 : Hid (∀ X, Gr w X → Calls Try.prog 59 #[.pointer (some ⟨pb, 0, none⟩), .int .i64 (k false).rid] X fun e w' => e = .returned (.tuple #[.int .i64 (k false).plain.1, .bool (k false).plain.2]) ∧ Gr X w') := Lib.hid (fun X hX => ih false j X (hT.gr hX) hL hlen.1)
    have HI2 : Hid (∀ X, Gr w X → Calls Try.prog 59 #[.pointer (some ⟨pb, 0, none⟩), .int .i64 (k true).rid] X fun e w' => e = .returned (.tuple #[.int .i64 (k true).plain.1, .bool (k true).plain.2]) ∧ Gr X w') := Lib.hid (fun X hX => ih true j X (hT.gr hX) hR hlen.2)
    have HR1 : Hid (∀ X, Gr w X → Calls Try.prog 57 #[.pointer (some ⟨pb, 0, none⟩), .int .i64 (k false).rid] X fun e w' => e = .returned (.bool (k false).isRed) ∧ X = w') := Lib.hid (fun X hX => by rw [← hL.red]; exact red_at (hT.gr hX) hL.ok)
    have HR2 : Hid (∀ X, Gr w X → Calls Try.prog 57 #[.pointer (some ⟨pb, 0, none⟩), .int .i64 (k true).rid] X fun e w' => e = .returned (.bool (k true).isRed) ∧ X = w') := Lib.hid (fun X hX => by rw [← hR.red]; exact red_at (hT.gr hX) hR.ok)
    obtain ⟨pp, hpp⟩ : ∃ pp, (B.N j c v' k).plain = pp := ⟨_, rfl⟩
    have HP : Hid (pp = if (k false).plain.2 = true ∧ (k true).plain.2 = true ∧ (k false).plain.1 = (k true).plain.1 then (if c then ((k false).plain.1, !(k false).isRed && !(k true).isRed) else ((k false).plain.1 + 1, true)) else (0, false)) := Lib.hid (by rw [← hpp]; rfl)
    rw [hpp]
    clear hpp
    obtain ⟨p1, p2⟩ := pp
    change Calls Try.prog 59 #[.pointer (some ⟨pb, 0, none⟩), .int .i64 j] w fun e w' => e = .returned (.tuple #[.int .i64 p1, .bool p2]) ∧ Gr w w'
    change w.cell? _ = some (.int .i64 (k false).rid) at n3
    change w.cell? _ = some (.int .i64 (k true).rid) at n4
    change w.cell? _ = some (.bool true) at n0
    change w.cell? _ = some (.bool c) at n1
    change w.cell? _ = some (.int .u64 v') at n2
    change w.cell? _ = some (.int .i64 u) at n5
    generalize (k false).rid = xl at HI1 HR1 n3
    generalize (k true).rid = xr at HI2 HR2 n4
    generalize (k false).plain = pl at HI1 HP hpl
    generalize (k true).plain = pr at HI2 HP
    obtain ⟨l1, l2⟩ := pl
    obtain ⟨r1, r2⟩ := pr
    generalize (k false).isRed = rl at HR1 HP
    generalize (k true).isRed = rr at HR2 HP
    simp only at HP HI1 HI2 hpl
    have hne : ((j : Int) == -1) = false := by rw [beq_eq_false_iff_ne]; omega
    have HNW : Hid (∀ X, Gr (w.alloc (.cells #[.bool true, .bool c, .int .u64 v', .int .i64 xl, .int .i64 xr, .int .i64 u] 57)) X → X.cell? ⟨w.heap.size, 1, none⟩ = some (.bool c) ∧ X.cell? ⟨w.heap.size, 3, none⟩ = some (.int .i64 xl) ∧ X.cell? ⟨w.heap.size, 4, none⟩ = some (.int .i64 xr)) := Lib.hid (fun X hX => ⟨hX.cell (cell_atA _ _ _ 1), hX.cell (cell_atA _ _ _ 3), hX.cell (cell_atA _ _ _ 4)⟩)
    have HGA : Hid (Gr w (w.alloc (.cells #[.bool true, .bool c, .int .u64 v', .int .i64 xl, .int .i64 xr, .int .i64 u] 57))) := Lib.hid (Gr.alloc _ _)
    clear hT hnd hL hR ih hh hi
    go_enter Try.func59, Try.ntmps59
    go_wp2_with fail
    generalize hq : w.heap.size = q at HNW ⊢
    generalize w.alloc (.cells #[.bool true, .bool c, .int .u64 v', .int .i64 xl, .int .i64 xr, .int .i64 u] 57) = w1 at HNW HGA ⊢
    clear hq n0 n1 n2 n3 n4 n5 c1
    refine (HI1.out w1 HGA.out).mono ?_
    rintro e' w2 ⟨rfl, hg2⟩
    have HG2 := Lib.hid (HGA.out.trans hg2)
    obtain ⟨m1, m3, m4⟩ := HNW.out w2 hg2
    have HNW2 := Lib.hid (fun X (hX : Gr w2 X) => HNW.out X (hg2.trans hX))
    clear hg2 HI1 HNW
    go_wp2_with fail
    refine (HI2.out w2 HG2.out).mono ?_
    rintro e' w3 ⟨rfl, hg3⟩
    have HG3 := Lib.hid (HG2.out.trans hg3)
    clear m1 m3 m4
    obtain ⟨m1, m3, m4⟩ := HNW2.out w3 hg3
    clear hg3 HI2 HNW2
    by_cases hall : l2 = true ∧ r2 = true ∧ l1 = r1
    · obtain ⟨rfl, rfl, rfl⟩ := hall
      have hee : ((l1 : Int) == (l1 : Int)) = true := by simp
      cases c with
      | false =>
        have HV : Hid (p1 = l1 + 1 ∧ p2 = true) := Lib.hid (by have := HP.out; simpa using this)
        go_wp2
        go_ret2
        refine ⟨?_, HG3.out⟩
        rw [HV.out.1, HV.out.2]
        rfl
      | true =>
        have HV : Hid (p1 = l1 ∧ p2 = (!rl && !rr)) := Lib.hid (by have := HP.out; simpa using this)
        go_wp2_with fail
        refine (HR1.out w3 HG3.out).mono ?_
        rintro e' w4 ⟨rfl, rfl⟩
        cases rl with
        | true =>
          go_wp2
          go_ret2
          refine ⟨?_, HG3.out⟩
          rw [HV.out.1, HV.out.2]
          rfl
        | false =>
          go_wp2_with fail
          refine (HR2.out w3 HG3.out).mono ?_
          rintro e' w4 ⟨rfl, rfl⟩
          go_wp2
          go_ret2
          refine ⟨?_, HG3.out⟩
          rw [HV.out.1, HV.out.2]
          rfl
    · have HV : Hid (p1 = 0 ∧ p2 = false) := Lib.hid (by have := HP.out; rw [if_neg hall] at this; simpa using this)
      cases l2 with
      | false =>
        go_wp2
        go_ret2
        refine ⟨?_, HG3.out⟩
        rw [HV.out.1, HV.out.2]
        rfl
      | true =>
        cases r2 with
        | false =>
          go_wp2
          go_ret2
          refine ⟨?_, HG3.out⟩
          rw [HV.out.1, HV.out.2]
          rfl
        | true =>
          have hlr : ¬ l1 = r1 := fun e => hall ⟨rfl, rfl, e⟩
          have hlr2 : ((l1 : Int) == (r1 : Int)) = false := by rw [beq_eq_false_iff_ne]; omega
          have hlr3 : ¬ (l1 : Int) = (r1 : Int) := by omega
          go_wp2
          go_ret2
          refine ⟨?_, HG3.out⟩
          rw [HV.out.1, HV.out.2]
          rfl
end Go.Proofs.Ytgjacmkedgbneaa
