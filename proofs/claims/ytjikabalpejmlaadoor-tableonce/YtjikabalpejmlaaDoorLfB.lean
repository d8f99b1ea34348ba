/-
  Contract of life's rules: the map, told by what stands at each event.
-/
import Derived.Test.YtjikabalpejmlaaDoorLfA
namespace Go.Proofs.YtjikabalpejmlaaDoor
open Go.RowKit Go.Joins Go.Maps Pk Lf

def zeroRule : Value := .agg #[.nilFunc, .int .i64 0, .nilFunc]
theorem zero_rule (w : World) : (zeroValue 111).run Tryd.prog w = .ok zeroRule w := by kernel_rfl
theorem key_law : Keyed Tryd.prog 3 := int_keyed Tryd.underlying3
/-- How an element of the map reads: as itself. -/
def asIs (v : Value) : Option (DataW Value × List MemPlace) := some (.held v, [])
theorem asIs_inv {v : Value} {x : Value} {ps : List MemPlace} (h : asIs v = some (.held x, ps)) : v = x := by
  unfold asIs at h
  simp only [Option.some.injEq, Prod.mk.injEq, DataW.held.injEq] at h
  exact h.1
/-- The rule of an event, whose closure captured the box n. -/
def ruleV (i n : Nat) : Value := .agg #[clo (ofF i) n, .int .i64 (toK i), .func (.func (chF i)) #[] #[]]

/-- Every cell stays. -/
def Kept (w w' : World) : Prop := ∀ p v, w.cell? p = some v → w'.cell? p = some v
theorem kept_below {w w' : World} (h : Below w.heap.size w w') : Kept w w' := fun p _ hp => (h.cell (World.block_lt_of_cell? w p hp)).trans hp
theorem kept_map {w w' : World} {b : Nat} {es : Array MapEntry} {cl : Nat} (hb : w.heap[b]? = some (.map es cl)) (h : w.grownBy w' (some b)) : Kept w w' := fun p v hp => by
  have hlt := World.block_lt_of_cell? w p hp
  have hne : p.block ≠ b := by
    intro e
    unfold World.cell? at hp
    rw [e, hb] at hp
    cases hp
  have := h.block p.block hlt (by simpa using hne)
  unfold World.cell? at hp ⊢
  rw [this]
  exact hp
theorem Ints.kept {k : IntKind} {w w' : World} {v : Value} {zs : List Int} (h : Ints k w v zs) (hk : Kept w w') : Ints k w' v zs := by
  obtain ⟨a, cap, rfl, hm, hw, hc⟩ := h
  refine ⟨a, cap, rfl, hm, hw, fun hz => ?_⟩
  obtain ⟨b, off, rfl, hc2⟩ := hc hz
  exact ⟨b, off, rfl, fun i hi => hk _ _ (hc2 i hi)⟩
theorem OfAt.kept {w w' : World} {i n : Nat} (h : OfAt w i n) (hk : Kept w w') : OfAt w' i n := by
  unfold OfAt at h ⊢
  split at h
  · exact hk _ _ h
  · exact hk _ _ h
  · exact hk _ _ h
  · obtain ⟨v, hv, hI⟩ := h
    exact ⟨v, hk _ _ hv, hI.kept hk⟩

/-- The map at block b holds the rules of the first j events, and nothing else. -/
def Sofar (w : World) (b j : Nat) : Prop :=
  ∃ m D, m ≤ j ∧ w.ownsMap Tryd.prog 3 asIs b m D ∧ (∀ i, i < j → ∃ n, D.atKey (.int .i64 i) (.held zeroRule) = .held (ruleV i n) ∧ has D (.int .i64 i) = true ∧ OfAt w i n) ∧
    (∀ x : Int, (x < 0 ∨ (j : Int) ≤ x) → has D (.int .i64 x) = false)
theorem Sofar.lt {w : World} {b j : Nat} (h : Sofar w b j) : b < w.heap.size := by
  obtain ⟨m, D, _, ho, _⟩ := h
  exact ho.lt
theorem Sofar.below {w w' : World} {b j : Nat} (h : Sofar w b j) (hb : Below w.heap.size w w') : Sofar w' b j := by
  obtain ⟨m, D, hm, ho, h1, h2⟩ := h
  refine ⟨m, D, hm, ho.kept (row := none) ⟨hb.os, hb.tape, hb.output, hb.size, fun i hi _ => hb.block i hi⟩ (by simp), fun i hi => ?_, h2⟩
  obtain ⟨n, a, c, d⟩ := h1 i hi
  exact ⟨n, a, c, d.kept (kept_below hb)⟩
theorem Sofar.none (w : World) : Sofar (w.alloc (.map #[] 0)) w.heap.size 0 :=
  ⟨0, .map [], Nat.le_refl _, World.ownsMap_made _ _ _ _, fun _ hi => absurd hi (Nat.not_lt_zero _), fun _ _ => rfl⟩

theorem i64_ne {x y : Int} (h : x ≠ y) : (Lit.int .i64 x) ≠ .int .i64 y := by
  intro e; cases e; exact h rfl
theorem small_wf {j : Nat} (h : j < 16) : (Lit.int .i64 (j : Int)).wf = true := by
  simp only [Lit.wf, IntKind.min, IntKind.max, IntKind.signed, IntKind.bits, Bool.and_eq_true, decide_eq_true_eq, if_true]
  omega

theorem Sofar.more {w : World} {b j n : Nat} (h : Sofar w b j) (hj : j < 16) (hO : OfAt w j n) :
    ∃ w', (Instr.mapUpdate 100 (.map (some b)) (.int .i64 j) (ruleV j n)).run Tryd.prog w = .ok () w' ∧ Sofar w' b (j + 1) ∧ w.grownBy w' (some b) := by
  obtain ⟨m, D, hm, ho, h1, h2⟩ := h
  have hD : IsMap D := ho.isMap
  have hk : WideAt.IsKeyLit (.int .i64 (j : Int)) := by trivial
  obtain ⟨w', hrun, ho', hg⟩ := ho.update key_law Tryd.underlying100 (by unfold maxLen; omega) (keyOf_int_mk Tryd.underlying3 (small_wf hj)) (val := ruleV j n) (d := .held (ruleV j n)) (ps := []) rfl
  obtain ⟨es, cl, hb, -⟩ := ho
  have hkp := kept_map hb hg
  refine ⟨w', hrun, ⟨m + 1, _, by omega, ho', fun i hi => ?_, fun x hx => ?_⟩, hg⟩
  · by_cases e : i = j
    · subst e
      exact ⟨n, atKey_put_same hD hk _ _, has_put_same hD hk _, hO.kept hkp⟩
    · obtain ⟨n', a, c, d⟩ := h1 i (by omega)
      have hne : (Lit.int .i64 (i : Int)) ≠ .int .i64 (j : Int) := i64_ne (by omega)
      exact ⟨n', by rw [atKey_put_other hne]; exact a, by rw [has_put_other hne]; exact c, d.kept hkp⟩
  · have hne : (Lit.int .i64 x) ≠ .int .i64 (j : Int) := i64_ne (by omega)
    rw [has_put_other hne]
    exact h2 x (by omega)

/-- The walk's step at one entry of the literal. -/
theorem wpList_insert_rule {w : World} {ops : Array Oper} {rest : List Oper} {o : Oper} {a : Act} {Q : Exit → Act → World → Prop} (hg : o.guard = none) (m x v : Operand) (hop : o.op = Op.insert 100 m x v)
    (b j n : Nat) (hj : j < 16) (hm : a.eval m = .map (some b)) (hx : a.eval x = .int .i64 j) (hv : a.eval v = ruleV j n) (hS : Sofar w b j) (hO : OfAt w j n)
    (hK : ∀ w', Sofar w' b (j + 1) → w.grownBy w' (some b) → wpList Tryd.prog ops Q rest (a.put o.dst undef) w') : wpList Tryd.prog ops Q (o :: rest) a w := by
  refine wpList_plain hg fun K' hK' => ?_
  obtain ⟨w', hrun, r1, r2⟩ := hS.more hj hO
  unfold Oper.wp
  simp [execOp, hop, hm, hx, hv, hrun, Result.andThen]
  exact hK' _ _ (hK w' r1 r2)

/-- What the walk carries. -/
def Made (W w : World) (b j : Nat) : Prop := Sofar w b j ∧ W.heap.size ≤ b ∧ Below W.heap.size W w
theorem Made.alloc {W w : World} {b j : Nat} (h : Made W w b j) (o : Obj) : Made W (w.alloc o) b j :=
  ⟨h.1.below ((Below.refl _ _).alloc (Nat.le_refl _) _), h.2.1, h.2.2.alloc h.2.2.size _⟩
theorem Made.insert {W w w' : World} {b j : Nat} (h : Made W w b j) (hS : Sofar w' b (j + 1)) (hg : w.grownBy w' (some b)) : Made W w' b (j + 1) :=
  ⟨hS, h.2.1, h.2.2.grown hg h.2.2.size (fun r hr => by cases hr; exact h.2.1)⟩
/-- A closure over a slice that was just laid, and its box. -/
theorem ofAt_new (w : World) (i : Nat) (hd : ∀ w n, OfAt w i n = (∃ v, w.cell? ⟨n, 0, none⟩ = some v ∧ Ints .i64 w v (kinds i))) (zs : List Int) (he : kinds i = zs) (hs : zs.all (fun z => decide (0 ≤ z ∧ z ≤ 7)) = true) (hl : zs.length ≤ 4) (t t' : TypeId) (vs : Array Value) (hvs : vs = (zs.map (Value.int .i64)).toArray) (l : Nat) (hll : l = zs.length) :
    OfAt ((w.alloc (.cells vs t)).alloc (.cells #[.slice (some ⟨w.heap.size, 0, Option.none⟩) l l] t')) i (w.alloc (.cells vs t)).heap.size := by
  subst hvs hll
  rw [hd, he]
  have hI := ints_new (k := .i64) w t zs (by unfold maxLen; omega) (fun z hz => by
    have := List.all_eq_true.1 hs z hz
    simp only [decide_eq_true_eq] at this
    simp only [Lit.wf, IntKind.min, IntKind.max, IntKind.signed, IntKind.bits, Bool.and_eq_true, decide_eq_true_eq, if_true]
    omega)
  refine ⟨_, ?_, hI.below ((Below.refl _ _).alloc (Nat.le_refl _) _)⟩
  rw [World.cell?_alloc_at _ _ _ _ rfl]
  rfl

theorem of_entry {W u : World} {b i : Nat} (HM : Made W u b i) (hd : ∀ w n, OfAt w i n = (∃ v, w.cell? ⟨n, 0, none⟩ = some v ∧ Ints .i64 w v (kinds i))) (zs : List Int) (he : kinds i = zs) (hs : zs.all (fun z => decide (0 ≤ z ∧ z ≤ 7)) = true) (hl : zs.length ≤ 4) (t : TypeId) (vs : Array Value) (hvs : vs = (zs.map (Value.int .i64)).toArray) (l : Nat) (hll : l = zs.length) (q : Nat) (hq : q = u.heap.size) :
    Calls Tryd.prog 76 #[.slice (some ⟨q, 0, none⟩) l l] (u.alloc (.cells vs t)) fun e w' => ∃ n, e = .returned (.func (.func 84) #[] #[.pointer (some ⟨n, 0, none⟩)]) ∧ Made W w' b i ∧ OfAt w' i n := by
  subst hq
  refine (of_any _ _ _ _).mono ?_
  rintro e w' ⟨rfl, rfl⟩
  exact ⟨_, rfl, (HM.alloc _).alloc _, ofAt_new u i hd zs he hs hl _ _ _ hvs _ hll⟩
theorem blocking_entry {W u : World} {b i : Nat} (HM : Made W u b i) (d : Bool) (hd : ∀ w n, OfAt w i n = (w.cell? ⟨n, 0, none⟩ = some (.bool d))) :
    Calls Tryd.prog 81 #[.bool d] u fun e w' => ∃ n, e = .returned (.func (.func 86) #[] #[.pointer (some ⟨n, 0, none⟩)]) ∧ Made W w' b i ∧ OfAt w' i n := by
  refine (blocking_any _ _).mono ?_
  rintro e w' ⟨rfl, rfl⟩
  refine ⟨_, rfl, HM.alloc _, ?_⟩
  rw [hd, World.cell?_alloc_at _ _ _ _ rfl]
  rfl

set_option maxHeartbeats 4000000 in
set_option maxRecDepth 100000 in
theorem rules_any (W : World) :
    Calls Tryd.prog 69 #[] W fun e w' => (∃ b, e = .returned (.map (some b)) ∧ Sofar w' b 16) ∧ Below W.heap.size W w' := by
  have hmm := @run_makeMap Tryd.prog
  have HM0 : Hid (Made W (W.alloc (.map #[] 0)) W.heap.size 0) := Lib.hid ⟨Sofar.none W, Nat.le_refl _, (Below.refl _ _).alloc (Nat.le_refl _) _⟩
  go_enter Tryd.func69, Tryd.ntmps69
  go_wp2_with fail
  refine (of_entry HM0.out (fun _ _ => rfl) [0] rfl (by decide) (by decide) _ _ rfl _ rfl _ (by first | rfl | simp)).mono ?_
  rintro e' x0 ⟨n0, rfl, hm, ho⟩
  have HP := Lib.hid hm
  have HO := Lib.hid ho
  clear hm ho HM0
  go_wp2_with (refine wpList_insert_rule rfl (.tmp 1) (.const (.int .i64 0)) (.tmp 4) rfl W.heap.size 0 n0 (by decide) rfl rfl rfl HP.out.1 HO.out ?_; intro u1 hs hg)
  have HM1 := Lib.hid (HP.out.insert hs hg)
  clear hs hg HP HO
  refine (of_entry HM1.out (fun _ _ => rfl) [1, 3, 4, 5] rfl (by decide) (by decide) _ _ rfl _ rfl _ (by first | rfl | simp)).mono ?_
  rintro e' x1 ⟨n1, rfl, hm, ho⟩
  have HP := Lib.hid hm
  have HO := Lib.hid ho
  clear hm ho HM1
  go_wp2_with (refine wpList_insert_rule rfl (.tmp 1) (.const (.int .i64 1)) (.tmp 7) rfl W.heap.size 1 n1 (by decide) rfl rfl rfl HP.out.1 HO.out ?_; intro u2 hs hg)
  have HM2 := Lib.hid (HP.out.insert hs hg)
  clear hs hg HP HO
  refine (of_entry HM2.out (fun _ _ => rfl) [1] rfl (by decide) (by decide) _ _ rfl _ rfl _ (by first | rfl | simp)).mono ?_
  rintro e' x2 ⟨n2, rfl, hm, ho⟩
  have HP := Lib.hid hm
  have HO := Lib.hid ho
  clear hm ho HM2
  go_wp2_with (refine wpList_insert_rule rfl (.tmp 1) (.const (.int .i64 2)) (.tmp 10) rfl W.heap.size 2 n2 (by decide) rfl rfl rfl HP.out.1 HO.out ?_; intro u3 hs hg)
  have HM3 := Lib.hid (HP.out.insert hs hg)
  clear hs hg HP HO
  refine (of_entry HM3.out (fun _ _ => rfl) [2] rfl (by decide) (by decide) _ _ rfl _ rfl _ (by first | rfl | simp)).mono ?_
  rintro e' x3 ⟨n3, rfl, hm, ho⟩
  have HP := Lib.hid hm
  have HO := Lib.hid ho
  clear hm ho HM3
  go_wp2_with (refine wpList_insert_rule rfl (.tmp 1) (.const (.int .i64 3)) (.tmp 13) rfl W.heap.size 3 n3 (by decide) rfl rfl rfl HP.out.1 HO.out ?_; intro u4 hs hg)
  have HM4 := Lib.hid (HP.out.insert hs hg)
  clear hs hg HP HO
  refine (of_entry HM4.out (fun _ _ => rfl) [2, 3] rfl (by decide) (by decide) _ _ rfl _ rfl _ (by first | rfl | simp)).mono ?_
  rintro e' x4 ⟨n4, rfl, hm, ho⟩
  have HP := Lib.hid hm
  have HO := Lib.hid ho
  clear hm ho HM4
  go_wp2_with (refine wpList_insert_rule rfl (.tmp 1) (.const (.int .i64 4)) (.tmp 16) rfl W.heap.size 4 n4 (by decide) rfl rfl rfl HP.out.1 HO.out ?_; intro u5 hs hg)
  have HM5 := Lib.hid (HP.out.insert hs hg)
  clear hs hg HP HO
  refine (of_entry HM5.out (fun _ _ => rfl) [4] rfl (by decide) (by decide) _ _ rfl _ rfl _ (by first | rfl | simp)).mono ?_
  rintro e' x5 ⟨n5, rfl, hm, ho⟩
  have HP := Lib.hid hm
  have HO := Lib.hid ho
  clear hm ho HM5
  go_wp2_with (refine wpList_insert_rule rfl (.tmp 1) (.const (.int .i64 5)) (.tmp 19) rfl W.heap.size 5 n5 (by decide) rfl rfl rfl HP.out.1 HO.out ?_; intro u6 hs hg)
  have HM6 := Lib.hid (HP.out.insert hs hg)
  clear hs hg HP HO
  refine (of_entry HM6.out (fun _ _ => rfl) [5] rfl (by decide) (by decide) _ _ rfl _ rfl _ (by first | rfl | simp)).mono ?_
  rintro e' x6 ⟨n6, rfl, hm, ho⟩
  have HP := Lib.hid hm
  have HO := Lib.hid ho
  clear hm ho HM6
  go_wp2_with (refine wpList_insert_rule rfl (.tmp 1) (.const (.int .i64 6)) (.tmp 22) rfl W.heap.size 6 n6 (by decide) rfl rfl rfl HP.out.1 HO.out ?_; intro u7 hs hg)
  have HM7 := Lib.hid (HP.out.insert hs hg)
  clear hs hg HP HO
  refine (of_entry HM7.out (fun _ _ => rfl) [5] rfl (by decide) (by decide) _ _ rfl _ rfl _ (by first | rfl | simp)).mono ?_
  rintro e' x7 ⟨n7, rfl, hm, ho⟩
  have HP := Lib.hid hm
  have HO := Lib.hid ho
  clear hm ho HM7
  go_wp2_with (refine wpList_insert_rule rfl (.tmp 1) (.const (.int .i64 7)) (.tmp 25) rfl W.heap.size 7 n7 (by decide) rfl rfl rfl HP.out.1 HO.out ?_; intro u8 hs hg)
  have HM8 := Lib.hid (HP.out.insert hs hg)
  clear hs hg HP HO
  refine (blocking_entry HM8.out false (fun _ _ => rfl)).mono ?_
  rintro e' x8 ⟨n8, rfl, hm, ho⟩
  have HP := Lib.hid hm
  have HO := Lib.hid ho
  clear hm ho HM8
  go_wp2_with (refine wpList_insert_rule rfl (.tmp 1) (.const (.int .i64 8)) (.tmp 27) rfl W.heap.size 8 n8 (by decide) rfl rfl rfl HP.out.1 HO.out ?_; intro u9 hs hg)
  have HM9 := Lib.hid (HP.out.insert hs hg)
  clear hs hg HP HO
  refine (blocking_entry HM9.out false (fun _ _ => rfl)).mono ?_
  rintro e' x9 ⟨n9, rfl, hm, ho⟩
  have HP := Lib.hid hm
  have HO := Lib.hid ho
  clear hm ho HM9
  go_wp2_with (refine wpList_insert_rule rfl (.tmp 1) (.const (.int .i64 9)) (.tmp 29) rfl W.heap.size 9 n9 (by decide) rfl rfl rfl HP.out.1 HO.out ?_; intro u10 hs hg)
  have HM10 := Lib.hid (HP.out.insert hs hg)
  clear hs hg HP HO
  refine (blocking_entry HM10.out true (fun _ _ => rfl)).mono ?_
  rintro e' x10 ⟨n10, rfl, hm, ho⟩
  have HP := Lib.hid hm
  have HO := Lib.hid ho
  clear hm ho HM10
  go_wp2_with (refine wpList_insert_rule rfl (.tmp 1) (.const (.int .i64 10)) (.tmp 31) rfl W.heap.size 10 n10 (by decide) rfl rfl rfl HP.out.1 HO.out ?_; intro u11 hs hg)
  have HM11 := Lib.hid (HP.out.insert hs hg)
  clear hs hg HP HO
  refine (of_entry HM11.out (fun _ _ => rfl) [5] rfl (by decide) (by decide) _ _ rfl _ rfl _ (by first | rfl | simp)).mono ?_
  rintro e' x11 ⟨n11, rfl, hm, ho⟩
  have HP := Lib.hid hm
  have HO := Lib.hid ho
  clear hm ho HM11
  go_wp2_with (refine wpList_insert_rule rfl (.tmp 1) (.const (.int .i64 11)) (.tmp 34) rfl W.heap.size 11 n11 (by decide) rfl rfl rfl HP.out.1 HO.out ?_; intro u12 hs hg)
  have HM12 := Lib.hid (HP.out.insert hs hg)
  clear hs hg HP HO
  refine (of_entry HM12.out (fun _ _ => rfl) [1] rfl (by decide) (by decide) _ _ rfl _ rfl _ (by first | rfl | simp)).mono ?_
  rintro e' x12 ⟨n12, rfl, hm, ho⟩
  have HP := Lib.hid hm
  have HO := Lib.hid ho
  clear hm ho HM12
  go_wp2_with (refine wpList_insert_rule rfl (.tmp 1) (.const (.int .i64 12)) (.tmp 37) rfl W.heap.size 12 n12 (by decide) rfl rfl rfl HP.out.1 HO.out ?_; intro u13 hs hg)
  have HM13 := Lib.hid (HP.out.insert hs hg)
  clear hs hg HP HO
  refine (of_entry HM13.out (fun _ _ => rfl) [4, 5] rfl (by decide) (by decide) _ _ rfl _ rfl _ (by first | rfl | simp)).mono ?_
  rintro e' x13 ⟨n13, rfl, hm, ho⟩
  have HP := Lib.hid hm
  have HO := Lib.hid ho
  clear hm ho HM13
  go_wp2_with (refine wpList_insert_rule rfl (.tmp 1) (.const (.int .i64 13)) (.tmp 40) rfl W.heap.size 13 n13 (by decide) rfl rfl rfl HP.out.1 HO.out ?_; intro u14 hs hg)
  have HM14 := Lib.hid (HP.out.insert hs hg)
  clear hs hg HP HO
  refine (of_entry HM14.out (fun _ _ => rfl) [6] rfl (by decide) (by decide) _ _ rfl _ rfl _ (by first | rfl | simp)).mono ?_
  rintro e' x14 ⟨n14, rfl, hm, ho⟩
  have HP := Lib.hid hm
  have HO := Lib.hid ho
  clear hm ho HM14
  go_wp2_with (refine wpList_insert_rule rfl (.tmp 1) (.const (.int .i64 14)) (.tmp 43) rfl W.heap.size 14 n14 (by decide) rfl rfl rfl HP.out.1 HO.out ?_; intro u15 hs hg)
  have HM15 := Lib.hid (HP.out.insert hs hg)
  clear hs hg HP HO
  refine (of_entry HM15.out (fun _ _ => rfl) [4] rfl (by decide) (by decide) _ _ rfl _ rfl _ (by first | rfl | simp)).mono ?_
  rintro e' x15 ⟨n15, rfl, hm, ho⟩
  have HP := Lib.hid hm
  have HO := Lib.hid ho
  clear hm ho HM15
  go_wp2_with (refine wpList_insert_rule rfl (.tmp 1) (.const (.int .i64 15)) (.tmp 46) rfl W.heap.size 15 n15 (by decide) rfl rfl rfl HP.out.1 HO.out ?_; intro u16 hs hg)
  have HM16 := Lib.hid (HP.out.insert hs hg)
  clear hs hg HP HO
  go_ret
  exact ⟨⟨_, rfl, HM16.out.1⟩, HM16.out.2.2⟩
end Go.Proofs.YtjikabalpejmlaaDoor
