/-
  How tasks, handles and tables of layer 14 lie; contracts of its small functions (need, isNice, fits, vacant).
-/
import Derived.Test.YtjikabalpejmlaaDoorTlM
import Derived.Test.YtjikabalpejmlaaDoorSlG
import Derived.Test.YtjikabalpejmlaaDoorMskB
import Derived.Test.YtjikabalpejmlaaDoorLfE
import Derived.BigQuiet
import Derived.Deep.QuietTactic
import Derived.WalkSmall
import Derived.WalkLawsBesides
import Derived.Deep.CutRange
namespace Go.Proofs.YtjikabalpejmlaaDoor
open Go.RowKit Go.Deep Pk Lf
open Mk (V allM cpus fstI anyB)

/-- A number that an int holds. -/
def Ni (n : Int) : Prop := -9223372036854775808 ≤ n ∧ n ≤ 9223372036854775807
theorem Ni.wf {n : Int} (h : Ni n) : (Lit.int .i64 n).wf = true := i64_wf h
/-- A task, a handle, as it lies. -/
def encK : Enc Tl.Tk where
  n := 3
  f x := [.int .i64 x.nice, .int .u64 (x.mask : Int), .int .i64 x.lag]
  d := Tl.k0
  ok x := Ni x.nice ∧ V x.mask ∧ Ni x.lag
  pos := by decide
  len _ := rfl
  one c y hy := by
    simp only [List.mem_cons, List.not_mem_nil, or_false] at hy
    rcases hy with rfl | rfl | rfl <;> rfl
def encH : Enc Tl.Hd where
  n := 2
  f x := [.int .i64 x.slot, .int .i64 x.gen]
  d := Tl.h0
  ok x := Ni x.slot ∧ Ni x.gen
  pos := by decide
  len _ := rfl
  one c y hy := by
    simp only [List.mem_cons, List.not_mem_nil, or_false] at hy
    rcases hy with rfl | rfl <;> rfl
def vK (x : Tl.Tk) : Value := .agg #[.int .i64 x.nice, .int .u64 (x.mask : Int), .int .i64 x.lag]
def vH (x : Tl.Hd) : Value := .agg #[.int .i64 x.slot, .int .i64 x.gen]
abbrev Ks (w : World) (v : Value) (l : List Tl.Tk) : Prop := Els encK w v l
abbrev Hs (w : World) (v : Value) (l : List Tl.Hd) : Prop := Els encH w v l
theorem Ks.parts {w : World} {v : Value} {l : List Tl.Tk} (h : Ks w v l) :
    (l = [] ∧ ∃ a cap, v = .slice a 0 cap) ∨ (0 < l.length ∧ ∃ b off cap, v = .slice (some ⟨b, off, none⟩) l.length cap ∧ (l.length ≤ cap ∧ cap ≤ maxLen) ∧ b < w.heap.size ∧
      ∀ i, i < l.length → w.cell? ⟨b, off + i * 3, none⟩ = some (.int .i64 (l.getD i Tl.k0).nice) ∧ w.cell? ⟨b, off + i * 3 + 1, none⟩ = some (.int .u64 ((l.getD i Tl.k0).mask : Int)) ∧ w.cell? ⟨b, off + i * 3 + 2, none⟩ = some (.int .i64 (l.getD i Tl.k0).lag)) := by
  rcases Els.parts h with h1 | ⟨hp, b, off, cap, hv, hm, hb, hc⟩
  · exact .inl h1
  · exact .inr ⟨hp, b, off, cap, hv, hm, hb, fun i hi => ⟨hc i hi 0 (by decide), hc i hi 1 (by decide), hc i hi 2 (by decide)⟩⟩
theorem Hs.parts {w : World} {v : Value} {l : List Tl.Hd} (h : Hs w v l) :
    (l = [] ∧ ∃ a cap, v = .slice a 0 cap) ∨ (0 < l.length ∧ ∃ b off cap, v = .slice (some ⟨b, off, none⟩) l.length cap ∧ (l.length ≤ cap ∧ cap ≤ maxLen) ∧ b < w.heap.size ∧
      ∀ i, i < l.length → w.cell? ⟨b, off + i * 2, none⟩ = some (.int .i64 (l.getD i Tl.h0).slot) ∧ w.cell? ⟨b, off + i * 2 + 1, none⟩ = some (.int .i64 (l.getD i Tl.h0).gen)) := by
  rcases Els.parts h with h1 | ⟨hp, b, off, cap, hv, hm, hb, hc⟩
  · exact .inl h1
  · exact .inr ⟨hp, b, off, cap, hv, hm, hb, fun i hi => ⟨hc i hi 0 (by decide), hc i hi 1 (by decide)⟩⟩

/-- Tasks, and handles, compared. -/
theorem eqK (x y : Tl.Tk) (w : World) : (binOp BinOp.eql 52 (.agg #[.int .i64 x.nice, .int .u64 (x.mask : Int), .int .i64 x.lag]) (.agg #[.int .i64 y.nice, .int .u64 (y.mask : Int), .int .i64 y.lag])).run Tryd.prog w = .ok (.bool (decide (x = y))) w := by
  obtain ⟨a, b, c⟩ := x
  obtain ⟨a', b', c'⟩ := y
  have u0 := Tryd.underlying3
  have u1 := Tryd.underlying28
  have hS : Tryd.prog.underlying 52 = some (.struct (Tryd.prog.fieldsOf 52)) := by kernel_rfl
  have hp : Tryd.prog.stoodInHeld 52 = false := by kernel_rfl
  have e : decide ((⟨a, b, c⟩ : Tl.Tk) = ⟨a', b', c'⟩) = (a == a' && ((b : Int) == b' && c == c')) := by
    rw [Bool.eq_iff_iff]
    simp only [decide_eq_true_eq, Tl.Tk.mk.injEq, Bool.and_eq_true, beq_iff_eq]
    omega
  rw [e, run_eql_struct, show (10000 : Nat) = 9999 + 1 from rfl, run_equalIn_agg w 9999 52 _ _ hS hp]
  simp only [Program.fieldsOf, Tryd.underlying52]
  go_simp
  by_cases h1 : a = a' <;> by_cases h2 : (b : Int) = b' <;> by_cases h3 : c = c' <;> simp [h1, h2, h3]
theorem eqH (x y : Tl.Hd) (w : World) : (binOp BinOp.eql 27 (.agg #[.int .i64 x.slot, .int .i64 x.gen]) (.agg #[.int .i64 y.slot, .int .i64 y.gen])).run Tryd.prog w = .ok (.bool (decide (x = y))) w := by
  obtain ⟨a, b⟩ := x
  obtain ⟨a', b'⟩ := y
  have u0 := Tryd.underlying3
  have hS : Tryd.prog.underlying 27 = some (.struct (Tryd.prog.fieldsOf 27)) := by kernel_rfl
  have hp : Tryd.prog.stoodInHeld 27 = false := by kernel_rfl
  have e : decide ((⟨a, b⟩ : Tl.Hd) = ⟨a', b'⟩) = (a == a' && b == b') := by
    rw [Bool.eq_iff_iff]
    simp only [decide_eq_true_eq, Tl.Hd.mk.injEq, Bool.and_eq_true, beq_iff_eq]
  rw [e, run_eql_struct, show (10000 : Nat) = 9999 + 1 from rfl, run_equalIn_agg w 9999 27 _ _ hS hp]
  simp only [Program.fieldsOf, Tryd.underlying27]
  go_simp
  by_cases h1 : a = a' <;> by_cases h2 : b = b' <;> simp [h1, h2]

/-- The value v is the table t. -/
def Tv (w : World) (v : Value) (t : Tl.T) : Prop := ∃ c0 c1, v = .agg #[c0, c1] ∧ Ints .u64 w c0 t.ws ∧ Ks w c1 t.ts
theorem Tv.below {w w' : World} {v : Value} {t : Tl.T} (h : Tv w v t) (hb : Below w.heap.size w w') : Tv w' v t := by
  obtain ⟨c0, c1, e, h0, h1⟩ := h
  exact ⟨c0, c1, e, h0.below hb, h1.below hb⟩
def vT0 : Value := .agg #[.slice none 0 0, .slice none 0 0]
theorem Tv.zero (w : World) : Tv w vT0 Tl.t0 := ⟨_, _, rfl, ⟨none, 0, rfl, Nat.zero_le _, by simp [Tl.t0], fun h => absurd rfl h⟩, ⟨none, 0, rfl, ⟨Nat.le_refl _, Nat.zero_le _⟩, by simp [Tl.t0], fun h => absurd rfl h⟩⟩
theorem Tv.U {w : World} {v : Value} {t : Tl.T} (h : Tv w v t) {i : Nat} (hi : i < t.ws.length) : U (Tl.W t i) := by
  obtain ⟨c0, c1, e, h0, h1⟩ := h
  refine pkU_of_wf (h0.wf _ ?_)
  unfold Tl.W
  rw [List.getD_eq_getElem?_getD, List.getElem?_eq_getElem hi]
  exact List.getElem_mem hi
theorem Tv.K {w : World} {v : Value} {t : Tl.T} (h : Tv w v t) {i : Nat} (hi : i < t.ts.length) : encK.ok (Tl.X t i) := by
  obtain ⟨c0, c1, e, h0, h1⟩ := h
  refine h1.oks _ ?_
  unfold Tl.X
  rw [List.getD_eq_getElem?_getD, List.getElem?_eq_getElem hi]
  exact List.getElem_mem hi

/-! ### need, isNice -/
theorem need_yes (er : Int) (w : World) : Calls Tryd.prog 37 #[.bool true, .int .i64 er] w fun e w' => e = .returned (.tuple #[]) ∧ w = w' := by
  go_enter Tryd.func37, Tryd.ntmps37
  go_wp2
  go_end0
  exact ⟨rfl, rfl⟩
theorem need_no (er : Int) (w : World) : Calls Tryd.prog 37 #[.bool false, .int .i64 er] w fun e w' => e = .panicked [{ v := .iface 86 (.int .i64 er), recovered := false }] ∧ w = w' := by
  go_enter Tryd.func37, Tryd.ntmps37
  go_wp2
  exact ⟨rfl, rfl, rfl⟩
def niceB (n : Int) : Bool := decide (-20 ≤ n) && decide (n ≤ 19)
theorem niceB_iff (n : Int) : niceB n = true ↔ -20 ≤ n ∧ n ≤ 19 := by simp [niceB]
theorem isNice_any (n : Int) (w : World) : Calls Tryd.prog 38 #[.int .i64 n] w fun e w' => e = .returned (.bool (niceB n)) ∧ w = w' := by
  by_cases h0 : -20 ≤ n
  · have HR : Hid (niceB n = decide (n ≤ 19)) := by unfold Hid niceB; simp [h0]
    go_enter Tryd.func38, Tryd.ntmps38
    go_wp2
    go_ret
    exact ⟨by rw [HR.out]; rfl, rfl⟩
  · have HR : Hid (niceB n = false) := by unfold Hid niceB; simp [h0]
    go_enter Tryd.func38, Tryd.ntmps38
    go_wp2
    go_ret
    exact ⟨by rw [HR.out]; rfl, rfl⟩

/-! ### fits -/
def kv (x : Tl.Tk) : Value := .agg #[.int .i64 x.nice, .int .u64 (x.mask : Int), .int .i64 x.lag]
theorem fits_bad {w : Int} {x : Tl.Tk} (h : ¬ isW w) : Tl.fitsB w x = false := decide_eq_false fun e => h e.1
theorem fits_free {w : Int} {x : Tl.Tk} (h : isW w) (hk : K w = 0) : Tl.fitsB w x = decide (x = Tl.k0) := by
  exact decide_eq_decide.2 ⟨fun e => e.2.1 hk, fun e => ⟨h, fun _ => e, fun z => absurd hk z⟩⟩
theorem fits_task {w : Int} {x : Tl.Tk} (h : isW w) (hk : K w ≠ 0) : Tl.fitsB w x = decide (Tl.mayK x) := by
  exact decide_eq_decide.2 ⟨fun e => e.2.2 hk, fun e => ⟨h, fun z => absurd z hk, fun _ => e⟩⟩
set_option maxHeartbeats 4000000 in
theorem fits_any (n : Int) (hn : U n) (x : Tl.Tk) (W : World) (hT : Tab W) :
    Calls Tryd.prog 46 #[.int .u64 n, .agg #[.int .i64 x.nice, .int .u64 (x.mask : Int), .int .i64 x.lag]] W fun e w' => e = .returned (.bool (Tl.fitsB n x)) ∧ Below W.heap.size W w' := by
  have HT1 := Lib.hid (hT.below ((Below.refl _ _).alloc (Nat.le_refl _) (.cells #[.int .i64 x.nice, .int .u64 (x.mask : Int), .int .i64 x.lag] 52)))
  have HB1 := Lib.hid ((Below.refl W.heap.size W).alloc (Nat.le_refl _) (.cells #[.int .i64 x.nice, .int .u64 (x.mask : Int), .int .i64 x.lag] 52))
  have hh : (W.alloc (.cells #[.int .i64 x.nice, .int .u64 (x.mask : Int), .int .i64 x.lag] 52)).heap[W.heap.size]? = some (.cells #[.int .i64 x.nice, .int .u64 (x.mask : Int), .int .i64 x.lag] 52) := heap_alloc_new W _
  have c1 : (W.alloc (.cells #[.int .i64 x.nice, .int .u64 (x.mask : Int), .int .i64 x.lag] 52)).cell? ⟨W.heap.size, 0, none⟩ = some (.int .i64 x.nice) := by simp only [World.cell?, hh]; rfl
  have c2 : (W.alloc (.cells #[.int .i64 x.nice, .int .u64 (x.mask : Int), .int .i64 x.lag] 52)).cell? ⟨W.heap.size, 1, none⟩ = some (.int .u64 (x.mask : Int)) := by simp only [World.cell?, hh]; rfl
  have c3 : (W.alloc (.cells #[.int .i64 x.nice, .int .u64 (x.mask : Int), .int .i64 x.lag] 52)).cell? ⟨W.heap.size, 2, none⟩ = some (.int .i64 x.lag) := by simp only [World.cell?, hh]; rfl
  have HC := Lib.hid (And.intro c1 (And.intro c2 c3))
  have HL : Hid (W.heap.size < (W.alloc (.cells #[.int .i64 x.nice, .int .u64 (x.mask : Int), .int .i64 x.lag] 52)).heap.size) := Lib.hid (by simp)
  have HU := Lib.hid hn
  clear c1 c2 c3 hh hT hn
  go_enter Tryd.func46, Tryd.ntmps46
  go_upto_region 1 with fail
  generalize W.alloc _ = w1 at HT1 HB1 HC HL ⊢
  go_wp2_with fail
  refine (unpack_any n HU.out w1 HT1.out).mono ?_
  rintro e' w2 ⟨rfl, hb2⟩
  have HB2 := Lib.hid hb2
  have HB3 := Lib.hid ((Below.refl w2.heap.size w2).alloc (Nat.le_refl _) (.cells #[.int .i64 (uK n), .int .i64 (uC n), .bool (uB n), .int .i64 (uS n), .int .i64 (uG n)] 79))
  have HB4 := Lib.hid (bOn HB2.out HB3.out)
  have HB5 := Lib.hid (HB1.out.trans (HB4.out.mono HB1.out.size))
  have HT3 := Lib.hid (HT1.out.below HB4.out)
  have HC3 := Lib.hid (And.intro ((HB4.out.cell HL.out).trans HC.out.1) (And.intro ((HB4.out.cell (p := ⟨W.heap.size, 1, none⟩) HL.out).trans HC.out.2.1) ((HB4.out.cell (p := ⟨W.heap.size, 2, none⟩) HL.out).trans HC.out.2.2)))
  have HL3 : Hid (W.heap.size < (w2.alloc (.cells #[.int .i64 (uK n), .int .i64 (uC n), .bool (uB n), .int .i64 (uS n), .int .i64 (uG n)] 79)).heap.size) := Lib.hid (Nat.lt_of_lt_of_le HL.out HB4.out.size)
  clear HB2 HB3 HB4 HC HB1 HT1 HL
  go_upto_region 2 with fail
  generalize w2.alloc _ = w3 at HC3 HT3 HB5 HL3 ⊢
  by_cases hw : isW n
  · obtain ⟨-, -, -, -, -, he⟩ := un_yes hw
    rw [he]
    by_cases hk : K n = 0
    · have HF := Lib.hid (fits_free (x := x) hw hk)
      have HK := Lib.hid hk
      have hq : ∀ w, (binOp BinOp.eql 52 (.agg #[.int .i64 x.nice, .int .u64 (x.mask : Int), .int .i64 x.lag]) (.agg #[.int .i64 0, .int .u64 0, .int .i64 0])).run Tryd.prog w = .ok (.bool (decide (x = Tl.k0))) w := fun w => eqK x Tl.k0 w
      clear hw he hk
      go_wp2_with fail
      refine (kind_any n HU.out w3 HT3.out).mono ?_
      rintro e' w4 ⟨rfl, hb4⟩
      rw [HK.out]
      have d1 := (hb4.cell HL3.out).trans HC3.out.1
      have d2 := (hb4.cell (p := ⟨W.heap.size, 1, none⟩) HL3.out).trans HC3.out.2.1
      have d3 := (hb4.cell (p := ⟨W.heap.size, 2, none⟩) HL3.out).trans HC3.out.2.2
      have HB6 := Lib.hid (HB5.out.trans (hb4.mono HB5.out.size))
      clear hb4
      go_wp2
      go_ret
      exact ⟨by rw [HF.out]; rfl, HB6.out⟩
    · have HF := Lib.hid (fits_task (x := x) hw hk)
      have HK := Lib.hid hk
      have hkd : (K n == 0) = false := by simp [hk]
      clear hw he
      go_wp2_with fail
      refine (kind_any n HU.out w3 HT3.out).mono ?_
      rintro e' w4 ⟨rfl, hb4⟩
      have d1 := (hb4.cell HL3.out).trans HC3.out.1
      have d2 := (hb4.cell (p := ⟨W.heap.size, 1, none⟩) HL3.out).trans HC3.out.2.1
      have d3 := (hb4.cell (p := ⟨W.heap.size, 2, none⟩) HL3.out).trans HC3.out.2.2
      have HB6 := Lib.hid (HB5.out.trans (hb4.mono HB5.out.size))
      clear hb4 hk
      go_wp2_with fail
      refine (isNice_any x.nice _).mono ?_
      rintro e' w5 ⟨rfl, rfl⟩
      cases hni : niceB x.nice with
      | false =>
        have HR : Hid (decide (Tl.mayK x) = false) := Lib.hid (decide_eq_false fun e => by rw [(niceB_iff _).2 e.1] at hni; cases hni)
        clear hni
        go_wp2
        go_ret
        exact ⟨by rw [HF.out, HR.out]; rfl, HB6.out⟩
      | true =>
        have HN := Lib.hid ((niceB_iff _).1 hni)
        clear hni
        by_cases hm : x.mask = 0
        · have HR : Hid (decide (Tl.mayK x) = false) := Lib.hid (decide_eq_false fun e => e.2.1 hm)
          rw [hm] at d2
          clear hm
          go_wp2
          go_ret
          exact ⟨by rw [HF.out, HR.out]; rfl, HB6.out⟩
        · have hm1 : (((x.mask : Int)) != 0) = true := by simp; exact hm
          have HM := Lib.hid hm
          by_cases hl : -1125899906842624 ≤ x.lag
          · have HR : Hid (decide (Tl.mayK x) = decide (x.lag ≤ 1125899906842624)) := Lib.hid (decide_eq_decide.2 ⟨fun e => e.2.2.2, fun e => ⟨HN.out, HM.out, hl, e⟩⟩)
            clear hm
            go_wp2
            go_ret
            exact ⟨by rw [HF.out, HR.out]; rfl, HB6.out⟩
          · have HR : Hid (decide (Tl.mayK x) = false) := Lib.hid (decide_eq_false fun e => hl e.2.2.1)
            clear hm
            go_wp2
            go_ret
            exact ⟨by rw [HF.out, HR.out]; rfl, HB6.out⟩
  · obtain ⟨-, -, -, -, -, he⟩ := un_no hw
    rw [he]
    have HF := Lib.hid (fits_bad (x := x) hw)
    clear hw he
    go_wp2
    go_ret
    exact ⟨by rw [HF.out]; rfl, HB5.out⟩
end Go.Proofs.YtjikabalpejmlaaDoor
