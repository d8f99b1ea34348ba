/-
  Contract of the iterator of layer 13 (allowed).
-/
import Derived.Test.YtnjbcblhciblcaaSpA
import Derived.RangeFuncBox
import Derived.RangeFuncNested
import Derived.Maps.AppendAt
namespace Go.Proofs.Ytnjbcblhciblcaa
open Go.RowKit Go.Shelf Mk Sp
attribute [local go_sem] Oper.semAt_some

set_option maxHeartbeats 400000 in
theorem allowed_any (a : Option Addr) (n c : Nat) (to : Int) (w : World) :
    Calls Try.prog 24 #[.slice a n c, .int .i64 to] w fun e w' => e = .returned (.func (.func 30) #[] #[.pointer (some ⟨w.heap.size, 0, none⟩), .pointer (some ⟨w.heap.size + 1, 0, none⟩)]) ∧ (w.alloc (.cells #[.slice a n c] 22)).alloc (.cells #[.int .i64 to] 3) = w' := by
  go_enter Try.func24, Try.ntmps24
  go_wp2
  go_ret
  exact ⟨by simp, rfl⟩

def AtI (k : Nat) (i : Value) : Prop := i = .int .i64 ((k : Int) - 1)
theorem AtI.zero {i : Value} (h : AtI 0 i) : i = .int .i64 (-1) := h
theorem AtI.succ {k : Nat} {i : Value} (h : AtI (k + 1) i) : i = .int .i64 (k : Int) := by unfold AtI at h; rw [h]; congr 1; omega
def leftI (i : Value) : Nat := (intOf i + 1).toNat
theorem AtI.left {k : Nat} {i : Value} (h : AtI k i) : leftI i = k := by unfold AtI at h; rw [h]; simp [leftI, intOf]

def encsC (c : C) : Array Value := #[.agg #[.int .i64 c.id, .int .i64 c.wt, .int .u64 (c.m : Int)]]

/-- Nothing older than n₀ turns, nor do two boxes. -/
def Kb (n₀ Bn : Nat) (A B : World) : Prop := Below n₀ A B ∧ B.cell? ⟨Bn, 0, none⟩ = A.cell? ⟨Bn, 0, none⟩ ∧ B.cell? ⟨Bn + 1, 0, none⟩ = A.cell? ⟨Bn + 1, 0, none⟩
theorem Kb.refl (n₀ Bn : Nat) (A : World) : Kb n₀ Bn A A := ⟨Below.refl _ _, rfl, rfl⟩
theorem Kb.trans {n₀ Bn : Nat} {A B D : World} (h : Kb n₀ Bn A B) (k : Kb n₀ Bn B D) : Kb n₀ Bn A D := ⟨h.1.trans k.1, k.2.1.trans h.2.1, k.2.2.trans h.2.2⟩
theorem Kb.drew {n₀ Bn : Nat} {A B : World} (h : Kb n₀ Bn A B) : Kb n₀ Bn A B.drew := ⟨h.1.drew, h.2⟩
theorem Kb.drewN {n₀ Bn : Nat} {A B : World} (h : Kb n₀ Bn A B) (q : Nat) : Kb n₀ Bn A (B.drewN q) := ⟨below_drewN h.1 _, h.2⟩
theorem Kb.of_below {n₀ Bn : Nat} {A B : World} (h : Below A.heap.size A B) (h0 : n₀ ≤ A.heap.size) (h1 : Bn + 1 < A.heap.size) : Kb n₀ Bn A B := ⟨h.mono h0, h.cell (p := ⟨Bn, 0, none⟩) (show Bn < A.heap.size by omega), h.cell (p := ⟨Bn + 1, 0, none⟩) h1⟩
theorem Kb.alloc {n₀ Bn : Nat} {A B : World} (h : Kb n₀ Bn A B) (o : Obj) (h0 : n₀ ≤ B.heap.size) (h1 : Bn + 1 < B.heap.size) : Kb n₀ Bn A (B.alloc o) := h.trans (Kb.of_below ((Below.refl _ B).alloc (Nat.le_refl _) o) h0 h1)
theorem Kb.setCell {n₀ Bn : Nat} {A B : World} (h : Kb n₀ Bn A B) (b : Nat) (x : Value) (h0 : n₀ ≤ b) (h1 : b ≠ Bn ∧ b ≠ Bn + 1) : Kb n₀ Bn A (B.setCell ⟨b, 0, none⟩ x) :=
  h.trans ⟨(Below.refl n₀ B).setCell (p := ⟨b, 0, none⟩) h0 _, World.cell?_setCell_other _ _ _ _ (fun e => h1.1 (congrArg Addr.block e)), World.cell?_setCell_other _ _ _ _ (fun e => h1.2 (congrArg Addr.block e))⟩
theorem Kb.grown {n₀ Bn : Nat} {A B : World} {row : Option Nat} (hg : A.grownBy B row) (h0 : n₀ ≤ A.heap.size) (h1 : Bn + 1 < A.heap.size) (hr : ∀ r, row = some r → n₀ ≤ r ∧ r ≠ Bn ∧ r ≠ Bn + 1) : Kb n₀ Bn A B := by
  refine ⟨(Below.refl n₀ A).grown hg h0 (fun r e => (hr r e).1), ?_, ?_⟩
  · simp only [World.cell?]; rw [hg.block Bn (by omega) (fun e => (hr Bn e.symm).2.1 rfl)]
  · simp only [World.cell?]; rw [hg.block (Bn + 1) h1 (fun e => (hr (Bn + 1) e.symm).2.2 rfl)]
theorem kb_b {n₀ Bn : Nat} {w : World} (h0 : n₀ ≤ w.heap.size) (h1 : Bn + 1 < w.heap.size) (W : World) (l : Nat) (o o' : Obj) (hl : w.heap.size ≤ l) (h : W.heap[l]? = some o) (k1 : o.isCells = false) (k2 : o.isWalk = false) : Kb n₀ Bn W (W.putObj l o') :=
  ⟨belowK_b h0 W l o o' hl h k1 k2, (belowK_b (n₀ := Bn + 1) (w := w) (by omega) W l o o' hl h k1 k2).cell (p := ⟨Bn, 0, none⟩) (Nat.lt_succ_self _), (belowK_b (n₀ := Bn + 2) (w := w) (by omega) W l o o' hl h k1 k2).cell (p := ⟨Bn + 1, 0, none⟩) (Nat.lt_succ_self _)⟩

set_option maxRecDepth 100000 in
set_option maxHeartbeats 4000000 in
theorem al_in (n : Nat) (hn : 1 ≤ n) (yl Bn n₀ : Nat) (v : Value) (l : List C) (to : Int) (J Jx : List C → World → Prop)
    (hY : ∀ pre c W, J pre W → pre.length < l.length → YieldAt Fence.wide (n - 1) Try.prog yl (encsC c) W fun e W' =>
      (e = .returned (.bool true) ∧ J (pre ++ [c]) W' ∧ Kb n₀ Bn W W') ∨ (e = .returned (.bool false) ∧ Jx (pre ++ [c]) W'))
    (hJN : ∀ pre W q, J pre W → J pre (W.drewN q)) (hJ : ∀ pre W, J pre W → J pre W.drew)
    (W : World) (hl : Cs W v l) (hin : ∀ b off, (∃ n c, v = .slice (some ⟨b, off, none⟩) n c) → l ≠ [] → b < n₀) (hbl : W.cell? ⟨Bn, 0, none⟩ = some v) (hbt : W.cell? ⟨Bn + 1, 0, none⟩ = some (.int .i64 to)) (hJ0 : J [] W) :
    CallsIn Fence.wide n Try.prog 30 #[.func (.yield yl) #[] #[], .pointer (some ⟨Bn, 0, none⟩), .pointer (some ⟨Bn + 1, 0, none⟩)] W fun e W' => (∃ v, e = .returned v) ∧
      ((∃ ys, ys = l.reverse.filter (may to) ∧ J ys W') ∨ (∃ pre, pre <+: l.reverse.filter (may to) ∧ Jx pre W')) := by
  have hmx : Try.prog.follows .mixedOrders = true := by kernel_rfl
  obtain ⟨a, cap, rfl, ⟨hlc, hcm⟩, hok, hcs⟩ := hl
  obtain ⟨zs, hzs⟩ : ∃ zs, l.reverse.filter (may to) = zs := ⟨_, rfl⟩
  rw [hzs]
  have HZ := Lib.hid hzs
  clear hzs
  obtain ⟨L, hL⟩ : ∃ L, l.length = L := ⟨_, rfl⟩
  have hml : cap ≤ 9223372036854775807 := by unfold maxLen at hcm; omega
  have HOK := Lib.hid hok
  have HL := Lib.hid hL
  rw [hL] at hlc hbl hin hY
  have HIN := Lib.hid hin
  clear hok hcm hin
  refine callsIn_of_wp Try.func30 rfl trivial ?_ rfl
  simp only [Try.ntmps30, List.size_toArray, List.length_cons, List.length_nil, Nat.reduceAdd, Nat.reduceSub, Array.replicate_succ, Array.replicate_zero, List.push_toArray, List.append_toArray, List.nil_append, List.cons_append]
  gi_wp2
  gi_loopw [4] (fun i wr => ∃ k : Nat, k ≤ L ∧ AtI k i ∧ J ((l.drop k).reverse.filter (may to)) wr ∧ Kb n₀ Bn W wr) (fun i _ => leftI i)
  case atStart => exact ⟨L, Nat.le_refl _, rfl, by rw [← hL, filt_end]; exact hJ0, Kb.refl _ _ _⟩
  case round =>
    obtain ⟨k, hk, hi, hJs, hnx⟩ := hrel
    have hbl2 := hnx.2.1.trans hbl
    have hbt2 := hnx.2.2.trans hbt
    match k, hk, hi, hJs with
    | 0, hk, hi, hJs =>
      obtain rfl := hi.zero
      have HJ := Lib.hid hJs
      clear hJs hcs
      gi_wp2
      go_end0
      exact ⟨⟨_, rfl⟩, .inl ⟨_, rfl, by rw [← HZ.out]; exact HJ.out⟩⟩
    | k + 1, hk, hi, hJs =>
      have hile := hi.left
      obtain rfl := hi.succ
      have hkl : k < l.length := by rw [hL]; omega
      have hne : l ≠ [] := by intro h; rw [h] at hkl; exact absurd hkl (Nat.not_lt_zero _)
      obtain ⟨b, off, rfl, hc⟩ := hcs hne
      have hb0 : b < n₀ := HIN.out b off ⟨_, _, rfl⟩ hne
      clear hne
      have c0 := hc k hkl 0 (by decide)
      have c1 := hc k hkl 1 (by decide)
      have c2 := hc k hkl 2 (by decide)
      have hokc : encC.ok (l.getD k default) := by
        have ec : l.getD k default = l[k] := by simp [List.getD, hkl]
        rw [ec]; exact HOK.out _ (List.getElem_mem hkl)
      have e0 : encC.d = default := rfl
      have hn3 : encC.n = 3 := rfl
      rw [e0, hn3] at c0 c1 c2
      have hlen := filt_len (to := to) l k hkl
      rw [hL] at hlen
      have hpre := filt_pre (to := to) l k
      have HJ := Lib.hid hJs
      have hfy := filt_yes (to := to) l k hkl
      have hfn := filt_no (to := to) l k hkl
      have hv : V (l.getD k default).m := hokc.2.2
      have hm : may to (l.getD k default) = has (l.getD k default).m to := rfl
      rw [HZ.out] at hpre
      have HP : Hid ((l.drop k).reverse.filter (may to) <+: zs) := hpre
      have HFY := Lib.hid hfy
      have HFN := Lib.hid hfn
      have HM := Lib.hid hm
      have HV := Lib.hid hv
      have HLN := Lib.hid hlen
      clear hc hcs hokc e0 hn3 hJs hpre hfy hfn hm hv hlen hkl hJ0
      generalize l.getD k default = c at *
      obtain ⟨ci, cw, cm⟩ := c
      rw [← hnx.1.cell (p := ⟨b, off + k * 3 + 0, none⟩) hb0] at c0
      rw [← hnx.1.cell (p := ⟨b, off + k * 3 + 1, none⟩) hb0] at c1
      rw [← hnx.1.cell (p := ⟨b, off + k * 3 + 2, none⟩) hb0] at c2
      simp only [encC, List.getElem?_cons_zero, List.getElem?_cons_succ, Nat.add_zero] at c0 c1 c2
      cases hh : has cm to with
      | true =>
        have HH := Lib.hid hh
        have HM2 : Hid (may to ⟨ci, cw, cm⟩ = true) := hh
        clear hh
        obtain ⟨fn, tmps, assign, body, hy, hR⟩ := hY _ ⟨ci, cw, cm⟩ wr.drew (hJ _ _ HJ.out) HLN.out
        dsimp only [encsC] at hy
        have hkL : k < L := by omega
        gi_wp2
        gi_region_with_o (first | (refine ⟨trivial, ?_⟩; gi_at_call 31; refine (callsIn_wide.2 (has_any cm HV.out to _)).mono ?_; rintro e w' ⟨rfl, rfl⟩; rw [HH.out]) | (refine hR.mono ?_; intro e W3 hcase; obtain ⟨bb, rfl, hcc⟩ : ∃ bb, e = .returned (.bool bb) ∧ Hid ((bb = true ∧ J _ W3 ∧ Kb n₀ Bn _ W3) ∨ (bb = false ∧ Jx _ W3)) := (by rcases hcase with ⟨rfl, h1, h2⟩ | ⟨rfl, h1⟩; exact ⟨true, rfl, .inl ⟨rfl, h1, h2⟩⟩; exact ⟨false, rfl, .inr ⟨rfl, h1⟩⟩)))
        all_goals (have HC := hcc)
        all_goals clear hcc hR
        all_goals cases bb with
          | true =>
            obtain ⟨-, hj, hk3⟩ : true = true ∧ J _ W3 ∧ Kb n₀ Bn _ W3 := by rcases HC.out with h | h <;> first | exact h | cases h.1
            gi_wp2
            go_roundw
            case rel => exact ⟨k, by omega, rfl, by rw [HFY.out HM2.out]; exact hj, hnx.drew.trans hk3⟩
            case measure => simp [leftI, intOf]
          | false =>
            obtain ⟨-, hj⟩ : false = false ∧ Jx _ W3 := by rcases HC.out with h | h <;> first | exact h | cases h.1
            gi_wp2
            refine bodyPost_ret (results_none rfl _ _ _) rfl ?_
            exact ⟨⟨_, rfl⟩, .inr ⟨_, by rw [← HFY.out HM2.out]; exact HP.out, hj⟩⟩
      | false =>
        have HHS : Hid (∀ X, Calls Try.prog 31 #[.int .u64 (cm : Int), .int .i64 to] X fun e w' => e = .returned (.bool false) ∧ w' = X) := fun X => (has_any cm HV.out to X).mono fun e w' h => ⟨by rw [← hh]; exact h.1, h.2.symm⟩
        have HM2 : Hid (may to ⟨ci, cw, cm⟩ = false) := hh
        clear hh
        have hkL : k < L := by omega
        gi_wp2
        refine wpIn_wide.2 ?_
        go_quiet ((go_at_call 31; refine Calls.quiet_of_same (HHS.out _)))
        gi_wp2
        go_roundw
        case rel => exact ⟨k, by omega, rfl, by rw [HFN.out HM2.out]; exact hJN _ _ _ HJ.out, hnx.drewN _⟩
        case measure => simp [leftI, intOf]

end Go.Proofs.Ytnjbcblhciblcaa
