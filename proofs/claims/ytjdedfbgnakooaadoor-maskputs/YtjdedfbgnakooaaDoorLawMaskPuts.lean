/-
  MaskPuts returns true at every input, and turns nothing that was there. The table of math/bits is tied to the program's text.
-/
import Derived.Test.YtjdedfbgnakooaaDoorMskC
import Derived.Test.YtjdedfbgnakooaaDoorMskL
import Derived.Test.YtjdedfbgnakooaaDoorPost
namespace Go.Proofs.YtjdedfbgnakooaaDoor.maskPuts
open Go.ChangeShapes Go.WideShapes Go.ChangeAt Go.RowKit Mk

theorem or_wout (x : Nat) (hx : V x) (c : Int) : wit x c ||| wout x c = wit x c := by
  refine Nat.eq_of_testBit_eq fun i => ?_
  rw [Nat.testBit_or, tb_wit, tb_wout x hx]
  cases x.testBit i <;> simp

/-- the walk up to the row's last line, at c = d and at c ≠ d alike: what is known is given by booleans. -/
structure Known (m a b na nb : Nat) (c d : Int) (i p q : Bool) : Prop where
  vm : V m
  va : V a
  vb : V b
  ea : wit m c = a
  eb : wout m c = b
  ha : has a c = i
  hb : has b c = false
  hm : has m c = p
  hmd : has m d = q
  had : c ≠ d → has a d = q
  hbd : c ≠ d → has b d = q
  ca : cnt a = na
  cb : cnt b = nb

set_option maxRecDepth 100000 in
set_option maxHeartbeats 4000000 in
theorem core (m a b na nb : Nat) (c d : Int) (i p q : Bool) (K : Known m a b na nb c d i p q) (hr : (i = true ∧ 0 ≤ c ∧ c < 64) ∨ (i = false ∧ p = false ∧ c < 0) ∨ (i = false ∧ p = false ∧ 64 ≤ c))
    (hO : bits .or .u64 (a : Int) (b : Int) = (a : Int)) (hl : nb ≤ 64) (hN : i = true → na = nb + 1) (hS : p = true → a = m) (hR : p = false → b = m) (w : World) (hT : Tab w) :
    Calls Tryd.prog 7 #[.int .u64 m, .int .i64 c, .int .i64 d] w fun e w' => e = .returned (.bool true) ∧ Below w.heap.size w w' := by
  have HK := Lib.hid K
  have HT := Lib.hid hT
  have HN := Lib.hid hN
  clear K hT hN
  by_cases hcd : c = d
  · have hcd' : (c != d) = false := by simp [hcd]
    clear hcd
    rcases hr with ⟨rfl, h0, h1⟩ | ⟨rfl, rfl, h0⟩ | ⟨rfl, rfl, h0⟩
    · have hf : ((na : Int) == (nb : Int) + 1) = true := by have := HN.out rfl; rw [beq_iff_eq]; omega
      cases p with
      | true =>
        have hS' : ((a : Int) == (m : Int)) = true := by rw [hS rfl]; simp
        clear hS hR HN
        go_enter Tryd.func7, Tryd.ntmps7
        go_wp2_with fail
        refine (with_any m HK.out.vm c _).mono ?_
        rintro e' w' ⟨rfl, rfl⟩
        rw [HK.out.ea]
        go_wp2_with fail
        refine (without_any m HK.out.vm c _).mono ?_
        rintro e' w' ⟨rfl, rfl⟩
        rw [HK.out.eb]
        go_wp2_with fail
        refine (has_any a HK.out.va c _).mono ?_
        rintro e' w' ⟨rfl, rfl⟩
        rw [HK.out.ha]
        go_wp2_with fail
        refine (has_any b HK.out.vb c _).mono ?_
        rintro e' w' ⟨rfl, rfl⟩
        rw [HK.out.hb]
        go_wp2_with fail
        refine (awake_any _ HT.out).mono ?_
        rintro e' w_b1 ⟨rfl, b1⟩
        have T1 := Lib.hid (HT.out.below b1)
        go_wp2_with fail
        refine (count_any a HK.out.va _ T1.out).mono ?_
        rintro e' w_b2 ⟨rfl, b2⟩
        rw [HK.out.ca]
        have T2 := Lib.hid (T1.out.below b2)
        go_wp2_with fail
        refine (count_any b HK.out.vb _ T2.out).mono ?_
        rintro e' w_b3 ⟨rfl, b3⟩
        rw [HK.out.cb]
        go_wp2_with fail
        refine (has_any m HK.out.vm c _).mono ?_
        rintro e' w' ⟨rfl, rfl⟩
        rw [HK.out.hm]
        go_wp2
        go_ret
        exact ⟨rfl, bOn (bOn b1 b2) b3⟩
      | false =>
        have hR' : ((b : Int) == (m : Int)) = true := by rw [hR rfl]; simp
        clear hS hR HN
        go_enter Tryd.func7, Tryd.ntmps7
        go_wp2_with fail
        refine (with_any m HK.out.vm c _).mono ?_
        rintro e' w' ⟨rfl, rfl⟩
        rw [HK.out.ea]
        go_wp2_with fail
        refine (without_any m HK.out.vm c _).mono ?_
        rintro e' w' ⟨rfl, rfl⟩
        rw [HK.out.eb]
        go_wp2_with fail
        refine (has_any a HK.out.va c _).mono ?_
        rintro e' w' ⟨rfl, rfl⟩
        rw [HK.out.ha]
        go_wp2_with fail
        refine (has_any b HK.out.vb c _).mono ?_
        rintro e' w' ⟨rfl, rfl⟩
        rw [HK.out.hb]
        go_wp2_with fail
        refine (awake_any _ HT.out).mono ?_
        rintro e' w_b1 ⟨rfl, b1⟩
        have T1 := Lib.hid (HT.out.below b1)
        go_wp2_with fail
        refine (count_any a HK.out.va _ T1.out).mono ?_
        rintro e' w_b2 ⟨rfl, b2⟩
        rw [HK.out.ca]
        have T2 := Lib.hid (T1.out.below b2)
        go_wp2_with fail
        refine (count_any b HK.out.vb _ T2.out).mono ?_
        rintro e' w_b3 ⟨rfl, b3⟩
        rw [HK.out.cb]
        go_wp2_with fail
        refine (has_any m HK.out.vm c _).mono ?_
        rintro e' w' ⟨rfl, rfl⟩
        rw [HK.out.hm]
        go_wp2_with fail
        refine (has_any m HK.out.vm c _).mono ?_
        rintro e' w' ⟨rfl, rfl⟩
        rw [HK.out.hm]
        go_wp2
        go_ret
        exact ⟨rfl, bOn (bOn b1 b2) b3⟩
    · have hR' : ((b : Int) == (m : Int)) = true := by rw [hR rfl]; simp
      clear hS hR HN
      go_enter Tryd.func7, Tryd.ntmps7
      go_wp2_with fail
      refine (with_any m HK.out.vm c _).mono ?_
      rintro e' w' ⟨rfl, rfl⟩
      rw [HK.out.ea]
      go_wp2_with fail
      refine (without_any m HK.out.vm c _).mono ?_
      rintro e' w' ⟨rfl, rfl⟩
      rw [HK.out.eb]
      go_wp2_with fail
      refine (has_any a HK.out.va c _).mono ?_
      rintro e' w' ⟨rfl, rfl⟩
      rw [HK.out.ha]
      go_wp2_with fail
      refine (has_any b HK.out.vb c _).mono ?_
      rintro e' w' ⟨rfl, rfl⟩
      rw [HK.out.hb]
      go_wp2_with fail
      refine (awake_any _ HT.out).mono ?_
      rintro e' w_b1 ⟨rfl, b1⟩
      go_wp2_with fail
      refine (has_any m HK.out.vm c _).mono ?_
      rintro e' w' ⟨rfl, rfl⟩
      rw [HK.out.hm]
      go_wp2_with fail
      refine (has_any m HK.out.vm c _).mono ?_
      rintro e' w' ⟨rfl, rfl⟩
      rw [HK.out.hm]
      go_wp2
      go_ret
      exact ⟨rfl, b1⟩
    · have hR' : ((b : Int) == (m : Int)) = true := by rw [hR rfl]; simp
      clear hS hR HN
      go_enter Tryd.func7, Tryd.ntmps7
      go_wp2_with fail
      refine (with_any m HK.out.vm c _).mono ?_
      rintro e' w' ⟨rfl, rfl⟩
      rw [HK.out.ea]
      go_wp2_with fail
      refine (without_any m HK.out.vm c _).mono ?_
      rintro e' w' ⟨rfl, rfl⟩
      rw [HK.out.eb]
      go_wp2_with fail
      refine (has_any a HK.out.va c _).mono ?_
      rintro e' w' ⟨rfl, rfl⟩
      rw [HK.out.ha]
      go_wp2_with fail
      refine (has_any b HK.out.vb c _).mono ?_
      rintro e' w' ⟨rfl, rfl⟩
      rw [HK.out.hb]
      go_wp2_with fail
      refine (awake_any _ HT.out).mono ?_
      rintro e' w_b1 ⟨rfl, b1⟩
      go_wp2_with fail
      refine (has_any m HK.out.vm c _).mono ?_
      rintro e' w' ⟨rfl, rfl⟩
      rw [HK.out.hm]
      go_wp2_with fail
      refine (has_any m HK.out.vm c _).mono ?_
      rintro e' w' ⟨rfl, rfl⟩
      rw [HK.out.hm]
      go_wp2
      go_ret
      exact ⟨rfl, b1⟩
  · have hcd' : (c != d) = true := by simp [hcd]
    have HNE := Lib.hid hcd
    clear hcd
    rcases hr with ⟨rfl, h0, h1⟩ | ⟨rfl, rfl, h0⟩ | ⟨rfl, rfl, h0⟩
    · have hf : ((na : Int) == (nb : Int) + 1) = true := by have := HN.out rfl; rw [beq_iff_eq]; omega
      cases q with
      | true =>
        cases p with
        | true =>
          have hS' : ((a : Int) == (m : Int)) = true := by rw [hS rfl]; simp
          clear hS hR HN
          go_enter Tryd.func7, Tryd.ntmps7
          go_wp2_with fail
          refine (with_any m HK.out.vm c _).mono ?_
          rintro e' w' ⟨rfl, rfl⟩
          rw [HK.out.ea]
          go_wp2_with fail
          refine (without_any m HK.out.vm c _).mono ?_
          rintro e' w' ⟨rfl, rfl⟩
          rw [HK.out.eb]
          go_wp2_with fail
          refine (has_any a HK.out.va c _).mono ?_
          rintro e' w' ⟨rfl, rfl⟩
          rw [HK.out.ha]
          go_wp2_with fail
          refine (has_any b HK.out.vb c _).mono ?_
          rintro e' w' ⟨rfl, rfl⟩
          rw [HK.out.hb]
          go_wp2_with fail
          refine (has_any a HK.out.va d _).mono ?_
          rintro e' w' ⟨rfl, rfl⟩
          rw [HK.out.had HNE.out]
          go_wp2_with fail
          refine (has_any m HK.out.vm d _).mono ?_
          rintro e' w' ⟨rfl, rfl⟩
          rw [HK.out.hmd]
          go_wp2_with fail
          refine (has_any b HK.out.vb d _).mono ?_
          rintro e' w' ⟨rfl, rfl⟩
          rw [HK.out.hbd HNE.out]
          go_wp2_with fail
          refine (has_any m HK.out.vm d _).mono ?_
          rintro e' w' ⟨rfl, rfl⟩
          rw [HK.out.hmd]
          go_wp2_with fail
          refine (awake_any _ HT.out).mono ?_
          rintro e' w_b1 ⟨rfl, b1⟩
          have T1 := Lib.hid (HT.out.below b1)
          go_wp2_with fail
          refine (count_any a HK.out.va _ T1.out).mono ?_
          rintro e' w_b2 ⟨rfl, b2⟩
          rw [HK.out.ca]
          have T2 := Lib.hid (T1.out.below b2)
          go_wp2_with fail
          refine (count_any b HK.out.vb _ T2.out).mono ?_
          rintro e' w_b3 ⟨rfl, b3⟩
          rw [HK.out.cb]
          go_wp2_with fail
          refine (has_any m HK.out.vm c _).mono ?_
          rintro e' w' ⟨rfl, rfl⟩
          rw [HK.out.hm]
          go_wp2
          go_ret
          exact ⟨rfl, bOn (bOn b1 b2) b3⟩
        | false =>
          have hR' : ((b : Int) == (m : Int)) = true := by rw [hR rfl]; simp
          clear hS hR HN
          go_enter Tryd.func7, Tryd.ntmps7
          go_wp2_with fail
          refine (with_any m HK.out.vm c _).mono ?_
          rintro e' w' ⟨rfl, rfl⟩
          rw [HK.out.ea]
          go_wp2_with fail
          refine (without_any m HK.out.vm c _).mono ?_
          rintro e' w' ⟨rfl, rfl⟩
          rw [HK.out.eb]
          go_wp2_with fail
          refine (has_any a HK.out.va c _).mono ?_
          rintro e' w' ⟨rfl, rfl⟩
          rw [HK.out.ha]
          go_wp2_with fail
          refine (has_any b HK.out.vb c _).mono ?_
          rintro e' w' ⟨rfl, rfl⟩
          rw [HK.out.hb]
          go_wp2_with fail
          refine (has_any a HK.out.va d _).mono ?_
          rintro e' w' ⟨rfl, rfl⟩
          rw [HK.out.had HNE.out]
          go_wp2_with fail
          refine (has_any m HK.out.vm d _).mono ?_
          rintro e' w' ⟨rfl, rfl⟩
          rw [HK.out.hmd]
          go_wp2_with fail
          refine (has_any b HK.out.vb d _).mono ?_
          rintro e' w' ⟨rfl, rfl⟩
          rw [HK.out.hbd HNE.out]
          go_wp2_with fail
          refine (has_any m HK.out.vm d _).mono ?_
          rintro e' w' ⟨rfl, rfl⟩
          rw [HK.out.hmd]
          go_wp2_with fail
          refine (awake_any _ HT.out).mono ?_
          rintro e' w_b1 ⟨rfl, b1⟩
          have T1 := Lib.hid (HT.out.below b1)
          go_wp2_with fail
          refine (count_any a HK.out.va _ T1.out).mono ?_
          rintro e' w_b2 ⟨rfl, b2⟩
          rw [HK.out.ca]
          have T2 := Lib.hid (T1.out.below b2)
          go_wp2_with fail
          refine (count_any b HK.out.vb _ T2.out).mono ?_
          rintro e' w_b3 ⟨rfl, b3⟩
          rw [HK.out.cb]
          go_wp2_with fail
          refine (has_any m HK.out.vm c _).mono ?_
          rintro e' w' ⟨rfl, rfl⟩
          rw [HK.out.hm]
          go_wp2_with fail
          refine (has_any m HK.out.vm c _).mono ?_
          rintro e' w' ⟨rfl, rfl⟩
          rw [HK.out.hm]
          go_wp2
          go_ret
          exact ⟨rfl, bOn (bOn b1 b2) b3⟩
      | false =>
        cases p with
        | true =>
          have hS' : ((a : Int) == (m : Int)) = true := by rw [hS rfl]; simp
          clear hS hR HN
          go_enter Tryd.func7, Tryd.ntmps7
          go_wp2_with fail
          refine (with_any m HK.out.vm c _).mono ?_
          rintro e' w' ⟨rfl, rfl⟩
          rw [HK.out.ea]
          go_wp2_with fail
          refine (without_any m HK.out.vm c _).mono ?_
          rintro e' w' ⟨rfl, rfl⟩
          rw [HK.out.eb]
          go_wp2_with fail
          refine (has_any a HK.out.va c _).mono ?_
          rintro e' w' ⟨rfl, rfl⟩
          rw [HK.out.ha]
          go_wp2_with fail
          refine (has_any b HK.out.vb c _).mono ?_
          rintro e' w' ⟨rfl, rfl⟩
          rw [HK.out.hb]
          go_wp2_with fail
          refine (has_any a HK.out.va d _).mono ?_
          rintro e' w' ⟨rfl, rfl⟩
          rw [HK.out.had HNE.out]
          go_wp2_with fail
          refine (has_any m HK.out.vm d _).mono ?_
          rintro e' w' ⟨rfl, rfl⟩
          rw [HK.out.hmd]
          go_wp2_with fail
          refine (has_any b HK.out.vb d _).mono ?_
          rintro e' w' ⟨rfl, rfl⟩
          rw [HK.out.hbd HNE.out]
          go_wp2_with fail
          refine (has_any m HK.out.vm d _).mono ?_
          rintro e' w' ⟨rfl, rfl⟩
          rw [HK.out.hmd]
          go_wp2_with fail
          refine (awake_any _ HT.out).mono ?_
          rintro e' w_b1 ⟨rfl, b1⟩
          have T1 := Lib.hid (HT.out.below b1)
          go_wp2_with fail
          refine (count_any a HK.out.va _ T1.out).mono ?_
          rintro e' w_b2 ⟨rfl, b2⟩
          rw [HK.out.ca]
          have T2 := Lib.hid (T1.out.below b2)
          go_wp2_with fail
          refine (count_any b HK.out.vb _ T2.out).mono ?_
          rintro e' w_b3 ⟨rfl, b3⟩
          rw [HK.out.cb]
          go_wp2_with fail
          refine (has_any m HK.out.vm c _).mono ?_
          rintro e' w' ⟨rfl, rfl⟩
          rw [HK.out.hm]
          go_wp2
          go_ret
          exact ⟨rfl, bOn (bOn b1 b2) b3⟩
        | false =>
          have hR' : ((b : Int) == (m : Int)) = true := by rw [hR rfl]; simp
          clear hS hR HN
          go_enter Tryd.func7, Tryd.ntmps7
          go_wp2_with fail
          refine (with_any m HK.out.vm c _).mono ?_
          rintro e' w' ⟨rfl, rfl⟩
          rw [HK.out.ea]
          go_wp2_with fail
          refine (without_any m HK.out.vm c _).mono ?_
          rintro e' w' ⟨rfl, rfl⟩
          rw [HK.out.eb]
          go_wp2_with fail
          refine (has_any a HK.out.va c _).mono ?_
          rintro e' w' ⟨rfl, rfl⟩
          rw [HK.out.ha]
          go_wp2_with fail
          refine (has_any b HK.out.vb c _).mono ?_
          rintro e' w' ⟨rfl, rfl⟩
          rw [HK.out.hb]
          go_wp2_with fail
          refine (has_any a HK.out.va d _).mono ?_
          rintro e' w' ⟨rfl, rfl⟩
          rw [HK.out.had HNE.out]
          go_wp2_with fail
          refine (has_any m HK.out.vm d _).mono ?_
          rintro e' w' ⟨rfl, rfl⟩
          rw [HK.out.hmd]
          go_wp2_with fail
          refine (has_any b HK.out.vb d _).mono ?_
          rintro e' w' ⟨rfl, rfl⟩
          rw [HK.out.hbd HNE.out]
          go_wp2_with fail
          refine (has_any m HK.out.vm d _).mono ?_
          rintro e' w' ⟨rfl, rfl⟩
          rw [HK.out.hmd]
          go_wp2_with fail
          refine (awake_any _ HT.out).mono ?_
          rintro e' w_b1 ⟨rfl, b1⟩
          have T1 := Lib.hid (HT.out.below b1)
          go_wp2_with fail
          refine (count_any a HK.out.va _ T1.out).mono ?_
          rintro e' w_b2 ⟨rfl, b2⟩
          rw [HK.out.ca]
          have T2 := Lib.hid (T1.out.below b2)
          go_wp2_with fail
          refine (count_any b HK.out.vb _ T2.out).mono ?_
          rintro e' w_b3 ⟨rfl, b3⟩
          rw [HK.out.cb]
          go_wp2_with fail
          refine (has_any m HK.out.vm c _).mono ?_
          rintro e' w' ⟨rfl, rfl⟩
          rw [HK.out.hm]
          go_wp2_with fail
          refine (has_any m HK.out.vm c _).mono ?_
          rintro e' w' ⟨rfl, rfl⟩
          rw [HK.out.hm]
          go_wp2
          go_ret
          exact ⟨rfl, bOn (bOn b1 b2) b3⟩
    · cases q with
      | true =>
        have hR' : ((b : Int) == (m : Int)) = true := by rw [hR rfl]; simp
        clear hS hR HN
        go_enter Tryd.func7, Tryd.ntmps7
        go_wp2_with fail
        refine (with_any m HK.out.vm c _).mono ?_
        rintro e' w' ⟨rfl, rfl⟩
        rw [HK.out.ea]
        go_wp2_with fail
        refine (without_any m HK.out.vm c _).mono ?_
        rintro e' w' ⟨rfl, rfl⟩
        rw [HK.out.eb]
        go_wp2_with fail
        refine (has_any a HK.out.va c _).mono ?_
        rintro e' w' ⟨rfl, rfl⟩
        rw [HK.out.ha]
        go_wp2_with fail
        refine (has_any b HK.out.vb c _).mono ?_
        rintro e' w' ⟨rfl, rfl⟩
        rw [HK.out.hb]
        go_wp2_with fail
        refine (has_any a HK.out.va d _).mono ?_
        rintro e' w' ⟨rfl, rfl⟩
        rw [HK.out.had HNE.out]
        go_wp2_with fail
        refine (has_any m HK.out.vm d _).mono ?_
        rintro e' w' ⟨rfl, rfl⟩
        rw [HK.out.hmd]
        go_wp2_with fail
        refine (has_any b HK.out.vb d _).mono ?_
        rintro e' w' ⟨rfl, rfl⟩
        rw [HK.out.hbd HNE.out]
        go_wp2_with fail
        refine (has_any m HK.out.vm d _).mono ?_
        rintro e' w' ⟨rfl, rfl⟩
        rw [HK.out.hmd]
        go_wp2_with fail
        refine (awake_any _ HT.out).mono ?_
        rintro e' w_b1 ⟨rfl, b1⟩
        go_wp2_with fail
        refine (has_any m HK.out.vm c _).mono ?_
        rintro e' w' ⟨rfl, rfl⟩
        rw [HK.out.hm]
        go_wp2_with fail
        refine (has_any m HK.out.vm c _).mono ?_
        rintro e' w' ⟨rfl, rfl⟩
        rw [HK.out.hm]
        go_wp2
        go_ret
        exact ⟨rfl, b1⟩
      | false =>
        have hR' : ((b : Int) == (m : Int)) = true := by rw [hR rfl]; simp
        clear hS hR HN
        go_enter Tryd.func7, Tryd.ntmps7
        go_wp2_with fail
        refine (with_any m HK.out.vm c _).mono ?_
        rintro e' w' ⟨rfl, rfl⟩
        rw [HK.out.ea]
        go_wp2_with fail
        refine (without_any m HK.out.vm c _).mono ?_
        rintro e' w' ⟨rfl, rfl⟩
        rw [HK.out.eb]
        go_wp2_with fail
        refine (has_any a HK.out.va c _).mono ?_
        rintro e' w' ⟨rfl, rfl⟩
        rw [HK.out.ha]
        go_wp2_with fail
        refine (has_any b HK.out.vb c _).mono ?_
        rintro e' w' ⟨rfl, rfl⟩
        rw [HK.out.hb]
        go_wp2_with fail
        refine (has_any a HK.out.va d _).mono ?_
        rintro e' w' ⟨rfl, rfl⟩
        rw [HK.out.had HNE.out]
        go_wp2_with fail
        refine (has_any m HK.out.vm d _).mono ?_
        rintro e' w' ⟨rfl, rfl⟩
        rw [HK.out.hmd]
        go_wp2_with fail
        refine (has_any b HK.out.vb d _).mono ?_
        rintro e' w' ⟨rfl, rfl⟩
        rw [HK.out.hbd HNE.out]
        go_wp2_with fail
        refine (has_any m HK.out.vm d _).mono ?_
        rintro e' w' ⟨rfl, rfl⟩
        rw [HK.out.hmd]
        go_wp2_with fail
        refine (awake_any _ HT.out).mono ?_
        rintro e' w_b1 ⟨rfl, b1⟩
        go_wp2_with fail
        refine (has_any m HK.out.vm c _).mono ?_
        rintro e' w' ⟨rfl, rfl⟩
        rw [HK.out.hm]
        go_wp2_with fail
        refine (has_any m HK.out.vm c _).mono ?_
        rintro e' w' ⟨rfl, rfl⟩
        rw [HK.out.hm]
        go_wp2
        go_ret
        exact ⟨rfl, b1⟩
    · cases q with
      | true =>
        have hR' : ((b : Int) == (m : Int)) = true := by rw [hR rfl]; simp
        clear hS hR HN
        go_enter Tryd.func7, Tryd.ntmps7
        go_wp2_with fail
        refine (with_any m HK.out.vm c _).mono ?_
        rintro e' w' ⟨rfl, rfl⟩
        rw [HK.out.ea]
        go_wp2_with fail
        refine (without_any m HK.out.vm c _).mono ?_
        rintro e' w' ⟨rfl, rfl⟩
        rw [HK.out.eb]
        go_wp2_with fail
        refine (has_any a HK.out.va c _).mono ?_
        rintro e' w' ⟨rfl, rfl⟩
        rw [HK.out.ha]
        go_wp2_with fail
        refine (has_any b HK.out.vb c _).mono ?_
        rintro e' w' ⟨rfl, rfl⟩
        rw [HK.out.hb]
        go_wp2_with fail
        refine (has_any a HK.out.va d _).mono ?_
        rintro e' w' ⟨rfl, rfl⟩
        rw [HK.out.had HNE.out]
        go_wp2_with fail
        refine (has_any m HK.out.vm d _).mono ?_
        rintro e' w' ⟨rfl, rfl⟩
        rw [HK.out.hmd]
        go_wp2_with fail
        refine (has_any b HK.out.vb d _).mono ?_
        rintro e' w' ⟨rfl, rfl⟩
        rw [HK.out.hbd HNE.out]
        go_wp2_with fail
        refine (has_any m HK.out.vm d _).mono ?_
        rintro e' w' ⟨rfl, rfl⟩
        rw [HK.out.hmd]
        go_wp2_with fail
        refine (awake_any _ HT.out).mono ?_
        rintro e' w_b1 ⟨rfl, b1⟩
        go_wp2_with fail
        refine (has_any m HK.out.vm c _).mono ?_
        rintro e' w' ⟨rfl, rfl⟩
        rw [HK.out.hm]
        go_wp2_with fail
        refine (has_any m HK.out.vm c _).mono ?_
        rintro e' w' ⟨rfl, rfl⟩
        rw [HK.out.hm]
        go_wp2
        go_ret
        exact ⟨rfl, b1⟩
      | false =>
        have hR' : ((b : Int) == (m : Int)) = true := by rw [hR rfl]; simp
        clear hS hR HN
        go_enter Tryd.func7, Tryd.ntmps7
        go_wp2_with fail
        refine (with_any m HK.out.vm c _).mono ?_
        rintro e' w' ⟨rfl, rfl⟩
        rw [HK.out.ea]
        go_wp2_with fail
        refine (without_any m HK.out.vm c _).mono ?_
        rintro e' w' ⟨rfl, rfl⟩
        rw [HK.out.eb]
        go_wp2_with fail
        refine (has_any a HK.out.va c _).mono ?_
        rintro e' w' ⟨rfl, rfl⟩
        rw [HK.out.ha]
        go_wp2_with fail
        refine (has_any b HK.out.vb c _).mono ?_
        rintro e' w' ⟨rfl, rfl⟩
        rw [HK.out.hb]
        go_wp2_with fail
        refine (has_any a HK.out.va d _).mono ?_
        rintro e' w' ⟨rfl, rfl⟩
        rw [HK.out.had HNE.out]
        go_wp2_with fail
        refine (has_any m HK.out.vm d _).mono ?_
        rintro e' w' ⟨rfl, rfl⟩
        rw [HK.out.hmd]
        go_wp2_with fail
        refine (has_any b HK.out.vb d _).mono ?_
        rintro e' w' ⟨rfl, rfl⟩
        rw [HK.out.hbd HNE.out]
        go_wp2_with fail
        refine (has_any m HK.out.vm d _).mono ?_
        rintro e' w' ⟨rfl, rfl⟩
        rw [HK.out.hmd]
        go_wp2_with fail
        refine (awake_any _ HT.out).mono ?_
        rintro e' w_b1 ⟨rfl, b1⟩
        go_wp2_with fail
        refine (has_any m HK.out.vm c _).mono ?_
        rintro e' w' ⟨rfl, rfl⟩
        rw [HK.out.hm]
        go_wp2_with fail
        refine (has_any m HK.out.vm c _).mono ?_
        rintro e' w' ⟨rfl, rfl⟩
        rw [HK.out.hm]
        go_wp2
        go_ret
        exact ⟨rfl, b1⟩

theorem walk (a0 c d : Int) (w0 : (Lit.int .u64 a0).wf = true) (_ : (Lit.int .i64 c).wf = true) (_ : (Lit.int .i64 d).wf = true) (w : World) (hT : Tab w) :
    Calls Tryd.prog 7 #[.int .u64 a0, .int .i64 c, .int .i64 d] w fun e w' => e = .returned (.bool true) ∧ Below w.heap.size w w' := by
  obtain ⟨m, rfl, hm⟩ := V_of_wf w0
  have hO : bits .or .u64 (wit m c : Nat) (wout m c : Nat) = (wit m c : Nat) := by rw [bits_or_u64_nat _ _ (V_wit hm c) (V_wout hm c), or_wout m hm c]
  have hi : has (wit m c) c = isCpu c := by
    rw [has_wit]
    cases h : has m c with
    | true => have := has_lt hm h; unfold isCpu; simp; omega
    | false => unfold isCpu; simp
  refine core m _ _ _ _ c d (isCpu c) (has m c) (has m d) ⟨hm, V_wit hm c, V_wout hm c, rfl, rfl, hi, by rw [has_wout m hm]; simp, rfl, rfl, fun h => by rw [has_wit]; simp [h], fun h => by rw [has_wout m hm]; simp [h], rfl, rfl⟩ ?_
    hO (cpus_le _) (fun h => cnt_puts m hm c h) (fun h => wit_same m c h) (fun h => wout_same m hm c h) w hT
  by_cases h0 : c < 0
  · exact .inr (.inl ⟨by unfold isCpu; simp; omega, has_neg _ _ h0, h0⟩)
  · by_cases h1 : 64 ≤ c
    · exact .inr (.inr ⟨by unfold isCpu; simp; omega, has_hi _ hm _ h1, h1⟩)
    · exact .inl ⟨by unfold isCpu; simp; omega, by omega, by omega⟩

theorem met (os : Os) : laidMet Tryd.prog Rows.maskPutsRow.laid ((laidWorld os).forCall (fun _ _ => 0) ⟨#[], #[.int .u64 0, .int .i64 0, .int .i64 0], []⟩).memory := laidMet_of_run' 8 (by kernel_rfl) (by kernel_rfl)
theorem reads (os : Os) {H : Type} (enc : TypeId × Value → H) : ∃ ps, DataW.whole enc Tryd.prog ((laidWorld os).forCall (fun _ _ => 0) ⟨#[], #[.int .u64 0, .int .i64 0, .int .i64 0], []⟩).memory Tryd.f7.params.toList Rows.maskPutsSpec.vars false #[Value.int .u64 0, Value.int .i64 0, Value.int .i64 0].toList 8 = some ([.lit (.int .u64 0), .lit (.int .i64 0), .lit (.int .i64 0)], [], ps) := ⟨[], by kernel_rfl⟩
set_option maxRecDepth 100000 in
theorem lifted (os : Os) (started : os.Started) (H : Type) (enc : TypeId × Value → H) (F : Stop.Interp) :
    ReturnsInHanded {} Tryd.checked os 7 .any ((OpenSpec.ofChange Rows.maskPutsSpec).preRow enc Tryd.prog Tryd.f7 Rows.maskPutsRow.domain false Rows.maskPutsRow.laid) (((OpenSpec.ofChange Rows.maskPutsSpec).at F).post enc Tryd.prog Tryd.f7 false true false false) := by
  obtain ⟨ps, hx⟩ := reads os enc
  refine returnsInHanded_of_row (C := Tryd.checked) (s := OpenSpec.ofChange Rows.maskPutsSpec) own started (by kernel_rfl) Tryd.func7 (witness_row_at (enc := enc) (C := Tryd.checked) false (laidWorld os) #[.int .u64 0, .int .i64 0, .int .i64 0] rfl (by kernel_rfl) (by kernel_rfl) (by kernel_rfl) (OpenSpec.preRow_of_cond 8 hx (by kernel_rfl) (fun k hk => by cases hk) (by kernel_rfl) (met os))) ?_
  intro W base args ds gs before hval0 hW _ _ _ hL _ _
  have hval : ∀ (j : Nat) t v, Tryd.f7.params[j]? = some t → args[j]? = some v → Value.okWide Tryd.prog W .any base t v := hval0
  have hW' := hW
  obtain ⟨p, q, hA0, hV, rfl, -, -⟩ := hW
  have hA : DataW.TrodAll enc Tryd.prog W 0 (fun _ => true) true Tryd.f7.params.toList args.toList ds p := hA0
  rw [Tryd.params7] at hA hval
  obtain ⟨v0, vs0, d0, ds0, p0, q0, hargs, rfl, rfl, h0, r0⟩ := trodAll_cons hA
  obtain ⟨v1, vs1, d1, ds1, p1, q1, rfl, rfl, rfl, h1, r1⟩ := trodAll_cons r0
  obtain ⟨v2, vs2, d2, ds2, p2, q2, rfl, rfl, rfl, h2, r2⟩ := trodAll_cons r1
  obtain ⟨rfl, rfl, rfl⟩ := trodAll_nil r2
  obtain rfl : args = #[v0, v1, v2] := by cases args; simp_all
  obtain ⟨rfl, rfl⟩ := trodVars_none hV
  obtain ⟨a0, rfl, rfl, rfl, w0⟩ := open_int Tryd.underlying22 (hval 0 22 v0 rfl rfl) h0
  obtain ⟨a1, rfl, rfl, rfl, w1⟩ := open_int Tryd.underlying3 (hval 1 3 v1 rfl rfl) h1
  obtain ⟨a2, rfl, rfl, rfl, w2⟩ := open_int Tryd.underlying3 (hval 2 3 v2 rfl rfl) h2
  clear hA0 hval0
  refine (walk a0 a1 a2 w0 w1 w2 W (tab_laid hL)).mono fun e W' ⟨he, hb⟩ => ?_
  subst he
  exact ⟨_, rfl, post_law laidOut (by kernel_rfl) rfl (by kernel_rfl) Tryd.underlying4 hW' rfl hb⟩

theorem row : Rows.MaskPutsSaid :=
  OpenClaim.holds_of_cond 7 Tryd.f7 rfl rfl rfl rfl rfl rfl rfl ⟨rfl, rfl, rfl, rfl, rfl⟩ rfl rfl rfl rfl rfl (by kernel_rfl) Tryd.func7 (by kernel_rfl)
    (of_decide_eq_true (by kernel_rfl)) (by unfold Func.isWrapper; first | (rw [if_pos (by decide +kernel)]; kernel_rfl) | (rw [if_neg (by decide +kernel)]; exact ⟨rfl, rfl⟩))
    (fun os started H enc _ F => by rw [OpenClaim.pre_eq_preRow]; exact lifted os started H enc F)
theorem simple (f : FuncId) (fn : Func) (hf : Tryd.pinned.checked.prog.funcNamed Rows.maskPutsRow.func = some f) (hfn : Tryd.pinned.checked.prog.funcs[f]? = some fn) :
    false = Tryd.pinned.checked.prog.looks [] ∧ ∀ (j : Nat) t, fn.params[j]? = some t → Tryd.pinned.checked.prog.wantsStandIn t = false := by
  have e1 : Tryd.prog.funcNamed Rows.maskPutsRow.func = some 7 := by kernel_rfl
  cases e1.symm.trans hf
  cases Tryd.func7.symm.trans hfn
  exact ⟨by kernel_rfl, no_stand (P := Tryd.prog) (by kernel_rfl)⟩
/-- **MaskPuts**: the given statement, a tied card. -/
theorem proved : Rows.MaskPutsCardSaid :=
  Claim7.holds_tied_plain_at .later [] _ _ _ _ row (fun _ h => by cases h) (by kernel_rfl) (fun _ h => by cases h) maskPuts_row_tie rfl ⟨rfl, rfl⟩ (by kernel_rfl) rfl simple (by kernel_rfl)
end Go.Proofs.YtjdedfbgnakooaaDoor.maskPuts
