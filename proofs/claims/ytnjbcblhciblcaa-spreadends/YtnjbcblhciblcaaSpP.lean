/-
  Contract of layer 13 Plan, which ranges over its iterator.
-/
import Derived.Test.YtnjbcblhciblcaaSpO
import Derived.Test.YtnjbcblhciblcaaMskQ
namespace Go.Proofs.Ytnjbcblhciblcaa
open Go.RowKit Go.Shelf Mk Sp
attribute [local go_sem] Oper.semAt_some

theorem al_stops (n : Nat) (hn : 1 ≤ n) (Bn n₀ : Nat) (v : Value) (l : List C) (to : Int) (w : World) (hl : Cs w v l) (hin : ∀ b off, (∃ n c, v = .slice (some ⟨b, off, none⟩) n c) → l ≠ [] → b < n₀) (hBn : Bn + 1 < w.heap.size)
    (hbl : w.cell? ⟨Bn, 0, none⟩ = some v) (hbt : w.cell? ⟨Bn + 1, 0, none⟩ = some (.int .i64 to)) :
    SeqStopsK Fence.wide n Try.prog 30 #[.pointer (some ⟨Bn, 0, none⟩), .pointer (some ⟨Bn + 1, 0, none⟩)] encsC (Kb n₀ Bn) (fun ys => ys = l.reverse.filter (may to)) (fun pre => pre <+: l.reverse.filter (may to)) l.length w := fun yl J Jx W hW hJ _ hY h0 =>
  al_in n hn yl Bn n₀ v l to J Jx hY (fun pre X q hx => hJ pre X _ none hx ⟨rfl, rfl, rfl, Nat.le_refl _, fun _ _ _ => rfl⟩ (fun r e => by cases e)) (fun pre X hx => hJ pre X _ none hx ⟨rfl, rfl, rfl, Nat.le_refl _, fun _ _ _ => rfl⟩ (fun r e => by cases e))
    W (hl.below hW) hin ((hW.cell (p := ⟨Bn, 0, none⟩) (show Bn < w.heap.size by omega)).trans hbl) ((hW.cell (p := ⟨Bn + 1, 0, none⟩) hBn).trans hbt) h0

def isCp (to : Int) : Bool := decide (0 ≤ to) && decide (to ≤ 63)

set_option maxHeartbeats 1000000 in
theorem plan_long_any (to h t most : Int) (v : Value) (l : List C) (w : World) (hv : Cs w v l) (hl : 64 < l.length) :
    Calls Try.prog 10 #[.int .i64 to, .int .i64 h, .int .i64 t, v, .int .i64 most] w fun e w' => e = .returned (.tuple #[.slice none 0 0, .int .i64 2]) ∧ Below w.heap.size w w' := by
  obtain ⟨a, cap, rfl, hlc, hcm⟩ := hv.shape
  have hml : cap ≤ 9223372036854775807 := by unfold maxLen at hcm; omega
  clear hv
  generalize l.length = n at *
  go_enter Try.func10, Try.ntmps10
  go_wp2
  go_ret2
  exact ⟨rfl, (((Below.refl _ _).alloc (Nat.le_refl _) _).alloc (by simp) _).alloc (by simp; omega) _⟩

set_option maxHeartbeats 2000000 in
theorem plan_bad_any (to h t most : Int) (v : Value) (l : List C) (w : World) (hv : Cs w v l) (hl : ¬ 64 < l.length) (hb : bad to h t most l = true) :
    Calls Try.prog 10 #[.int .i64 to, .int .i64 h, .int .i64 t, v, .int .i64 most] w fun e w' => e = .returned (.tuple #[.slice none 0 0, .int .i64 1]) ∧ Below w.heap.size w w' := by
  have HA : Hid (∀ X, Below w.heap.size w X → Calls Try.prog 23 #[v] X fun e w' => e = .returned (.bool (l.all wtOk)) ∧ Below X.heap.size X w') := fun X hX => areWeights_any v l X (hv.below hX)
  obtain ⟨a, cap, rfl, hlc, hcm⟩ := hv.shape
  have hml : cap ≤ 9223372036854775807 := by unfold maxLen at hcm; omega
  clear hv
  have HB := Lib.hid hb
  clear hb
  obtain ⟨n, hn⟩ : ∃ n, l.length = n := ⟨_, rfl⟩
  rw [hn] at hl hlc HA ⊢
  clear hn
  have hn64 : n ≤ 64 := by omega
  have b0 : Below w.heap.size w (((w.alloc (.cells #[.int .i64 h] 3)).alloc (.cells #[.int .i64 t] 3)).alloc (.cells #[.int .i64 most] 3)) := (((Below.refl _ _).alloc (Nat.le_refl _) _).alloc (by simp) _).alloc (by simp; omega) _
  cases h1 : isCp to with
  | false =>
    have H1 : Hid ((decide (0 ≤ to) && decide (to ≤ 63)) = false) := h1
    clear h1 HB
    go_enter Try.func10, Try.ntmps10
    go_wp2_with fail
    refine (isCpu_any to _).mono ?_
    rintro e' w' ⟨rfl, rfl⟩
    rw [H1.out]
    go_wp2
    go_ret2
    exact ⟨rfl, b0⟩
  | true =>
    have H1 : Hid ((decide (0 ≤ to) && decide (to ≤ 63)) = true) := h1
    cases h2 : isLd h with
    | false =>
      have H2 := Lib.hid h2
      clear h1 h2 HB
      go_enter Try.func10, Try.ntmps10
      go_wp2_with fail
      refine (isCpu_any to _).mono ?_
      rintro e' w' ⟨rfl, rfl⟩
      rw [H1.out]
      go_wp2_with fail
      refine (isLoad_any h _).mono ?_
      rintro e' w' ⟨rfl, rfl⟩
      rw [H2.out]
      go_wp2
      go_ret2
      exact ⟨rfl, b0⟩
    | true =>
      have H2 := Lib.hid h2
      cases h3 : isLd t with
      | false =>
        have H3 := Lib.hid h3
        clear h1 h2 h3 HB
        go_enter Try.func10, Try.ntmps10
        go_wp2_with fail
        refine (isCpu_any to _).mono ?_
        rintro e' w' ⟨rfl, rfl⟩
        rw [H1.out]
        go_wp2_with fail
        refine (isLoad_any h _).mono ?_
        rintro e' w' ⟨rfl, rfl⟩
        rw [H2.out]
        go_wp2_with fail
        refine (isLoad_any t _).mono ?_
        rintro e' w' ⟨rfl, rfl⟩
        rw [H3.out]
        go_wp2
        go_ret2
        exact ⟨rfl, b0⟩
      | true =>
        have H3 := Lib.hid h3
        by_cases h4 : most < 0
        · clear h1 h2 h3 HB
          go_enter Try.func10, Try.ntmps10
          go_wp2_with fail
          refine (isCpu_any to _).mono ?_
          rintro e' w' ⟨rfl, rfl⟩
          rw [H1.out]
          go_wp2_with fail
          refine (isLoad_any h _).mono ?_
          rintro e' w' ⟨rfl, rfl⟩
          rw [H2.out]
          go_wp2_with fail
          refine (isLoad_any t _).mono ?_
          rintro e' w' ⟨rfl, rfl⟩
          rw [H3.out]
          go_wp2
          go_ret2
          exact ⟨rfl, b0⟩
        · have H5 : Hid (l.all wtOk = false) := by
            have hb := HB.out
            unfold Hid
            unfold bad at hb
            rw [H1.out, h2, h3] at hb
            simpa [h4] using hb
          clear h1 h2 h3 HB
          go_enter Try.func10, Try.ntmps10
          go_wp2_with fail
          refine (isCpu_any to _).mono ?_
          rintro e' w' ⟨rfl, rfl⟩
          rw [H1.out]
          go_wp2_with fail
          refine (isLoad_any h _).mono ?_
          rintro e' w' ⟨rfl, rfl⟩
          rw [H2.out]
          go_wp2_with fail
          refine (isLoad_any t _).mono ?_
          rintro e' w' ⟨rfl, rfl⟩
          rw [H3.out]
          go_wp2_with fail
          refine (HA.out _ b0).mono ?_
          rintro e' w_b1 ⟨rfl, b1⟩
          rw [H5.out]
          go_wp2
          go_ret2
          exact ⟨rfl, bOn b0 b1⟩

def BoxC (W : World) (B : Nat) (c : C) : Prop := W.heap[B]? = some (.cells #[.int .i64 c.id, .int .i64 c.wt, .int .u64 (c.m : Int)] 41)
theorem boxC_own {β : Type} (B : Nat) (f : β → C) : Go.Own (fun s W => BoxC W B (f s)) := fun s X Y row hs hg hrow => by
  refine (hg.block B (Array.getElem?_eq_some_iff.1 hs).1 (fun e => ?_)).trans hs
  obtain ⟨o, ho, hc⟩ := hrow B e.symm
  rw [show X.heap[B]? = _ from hs] at ho; cases ho; cases hc
theorem Boxed.below' {W W' : World} {B : Nat} {t : TypeId} {v : Value} (h : Boxed W B t v) (hb : Below W.heap.size W W') : Boxed W' B t v := (hb.block B (Array.getElem?_eq_some_iff.1 h).1).trans h

/-- A box that holds a slice of the call's own, behind an append and the store of what it tells: every other block but the slice's own is as it was. -/
theorem appendedB {W w1 : World} {n₀ B : Nat} {t e : TypeId} {size : Nat} {v v' : Value} {k m : Nat} {xs ys : List Value} {tmp : Obj}
    (hv : Boxed W B t v) (hte : t ≠ e) (hrow : W.ownsRow n₀ e size v k xs) (hown' : w1.ownsRow n₀ e size v' m ys) (hgrow : (W.alloc tmp).grownBy w1 v.ownBlock) :
    Boxed w1 B t v ∧ Boxed (w1.setCell ⟨B, 0, none⟩ v') B t v' ∧ (w1.setCell ⟨B, 0, none⟩ v').ownsRow n₀ e size v' m ys ∧ KeepsOthers W (w1.setCell ⟨B, 0, none⟩ v') ∧
      (w1.setCell ⟨B, 0, none⟩ v').os = W.os ∧ (w1.setCell ⟨B, 0, none⟩ v').tape = W.tape ∧ (w1.setCell ⟨B, 0, none⟩ v').output = W.output ∧ W.heap.size ≤ (w1.setCell ⟨B, 0, none⟩ v').heap.size ∧
      ∀ i, i < W.heap.size → i ≠ B → some i ≠ v.ownBlock → (w1.setCell ⟨B, 0, none⟩ v').heap[i]? = W.heap[i]? := by
  have hv1 : Boxed w1 B t v := (hv.alloc tmp).kept hgrow (hv.not_row hte hrow)
  have g1 := (World.grownBy_alloc W tmp v.ownBlock).trans hgrow
  have g2 := grownBy_setCell' w1 B v'
  refine ⟨hv1, hv1.set v', hown'.kept g2 (.inr (hv1.not_row hte hown').symm), ?_, g2.os.trans g1.os, g2.tape.trans g1.tape, g2.output.trans g1.output, Nat.le_trans g1.size g2.size, fun i hi hne hn => (g2.block i (Nat.lt_of_lt_of_le hi g1.size) (fun e => hne (Option.some.inj e))).trans (g1.block i hi hn)⟩
  refine ((KeepsOthers.alloc W tmp).trans (KeepsOthers.of_grownBy hgrow fun j o ej hj => ?_)).trans (KeepsOthers.setCell _ _ _)
  rcases (hrow.alloc tmp).2 with ⟨rfl, _⟩ | ⟨g, cap, cur, rfl, _, hgb, _⟩
  · simp [Value.ownBlock] at ej
  · obtain rfl : g = j := by simpa [Value.ownBlock] using ej
    rw [hgb] at hj; cases hj; rfl
theorem boxC_not_row {W : World} {B : Nat} {c : C} (h : BoxC W B c) {base k : Nat} {v : Value} {xs : List Value} (hr : W.ownsRow base 3 1 v k xs) : some B ≠ v.ownBlock := by
  rcases hr.2 with ⟨rfl, _⟩ | ⟨g, cap, cur, rfl, _, hgb, _⟩
  · simp [Value.ownBlock]
  · intro e'
    obtain rfl : B = g := by simpa [Value.ownBlock] using e'
    have := (show W.heap[B]? = _ from h).symm.trans hgb
    simp at this

set_option maxRecDepth 100000 in
set_option maxHeartbeats 4000000 in
theorem plan_good_any (to h t most : Int) (v : Value) (l : List C) (w : World) (hv : Cs w v l) (hl : ¬ 64 < l.length) (hb : bad to h t most l = false) :
    Calls Try.prog 10 #[.int .i64 to, .int .i64 h, .int .i64 t, v, .int .i64 most] w fun e w' => ∃ u B, w.heap.size ≤ B ∧ e = .returned (.tuple #[u, .int .i64 0]) ∧ Own .i64 w' B 3 u (planS to h t most l).gone ∧ Below w.heap.size w w' := by
  have hmx : Try.prog.follows .mixedOrders = true := by kernel_rfl
  have hb' := hb
  unfold bad at hb'
  simp only [Bool.or_eq_false_iff, Bool.not_eq_false', decide_eq_false_iff_not] at hb'
  obtain ⟨h1, h2, h3, h4, h5⟩ := hb'
  have H1 := Lib.hid h1
  have H2 := Lib.hid h2
  have H3 := Lib.hid h3
  have H5 := Lib.hid h5
  have hld1 := (isLd_iff _).1 h2
  have hld2 := (isLd_iff _).1 h3
  have HA : Hid (∀ X, Below w.heap.size w X → Calls Try.prog 23 #[v] X fun e w' => e = .returned (.bool true) ∧ Below X.heap.size X w') := fun X hX => by have := areWeights_any v l X (hv.below hX); rwa [h5] at this
  have HV : Hid (∀ X, Below w.heap.size w X → Cs X v l) := fun X hX => hv.below hX
  have hin : ∀ b off, (∃ n c, v = .slice (some ⟨b, off, none⟩) n c) → l ≠ [] → b < w.heap.size := by
    rintro b off ⟨n, c, rfl⟩ hne
    rcases Cs.parts hv with ⟨h0, -⟩ | ⟨-, b', off', cap', he, -, hb, -⟩
    · exact absurd h0 hne
    · cases he; exact hb
  obtain ⟨a, cap, rfl, hlc, hcm⟩ := hv.shape
  have hml : cap ≤ 9223372036854775807 := by unfold maxLen at hcm; omega
  obtain ⟨L, hL⟩ : ∃ L, l.length = L := ⟨_, rfl⟩
  rw [hL] at hl hlc HA HV hin
  have hn64 : L ≤ 64 := by omega
  clear hv hb h1 h2 h3 h5
  rw [hL]
  obtain ⟨i0, hi, hz0, hz1, hz2⟩ := info_parts ints_info
  have b0 : Below w.heap.size w (((w.alloc (.cells #[.int .i64 h] 3)).alloc (.cells #[.int .i64 t] 3)).alloc (.cells #[.int .i64 most] 3)) := (((Below.refl _ _).alloc (Nat.le_refl _) _).alloc (by simp) _).alloc (by simp; omega) _
  refine (callsIn_wide (n := 8)).1 ?_
  refine callsIn_of_wp_marks Try.func10 rfl trivial ?_ rfl
  simp only [Try.ntmps10, List.size_toArray, List.length_cons, List.length_nil, Nat.reduceAdd, Nat.reduceSub, Array.replicate_succ, Array.replicate_zero, List.push_toArray, List.append_toArray, List.nil_append, List.cons_append]
  gi_wp2_with (refine ⟨trivial, ?_⟩; first
    | (gi_at_call 21; refine (callsIn_wide.2 (isCpu_any to _)).mono ?_; rintro e w' ⟨rfl, rfl⟩; rw [H1.out])
    | (gi_at_call 22; refine (callsIn_wide.2 (isLoad_any _ _)).mono ?_; rintro e w' ⟨rfl, rfl⟩; first | rw [H2.out] | rw [H3.out])
    | (gi_at_call 23; refine (callsIn_wide.2 (HA.out _ b0)).mono ?_; rintro e wA ⟨rfl, hA⟩)
    | (gi_at_call 24; refine (callsIn_wide.2 (allowed_any _ _ _ to _)).mono ?_; rintro e wL ⟨rfl, rfl⟩))
  have hw3 : w.heap.size + 3 ≤ wA.heap.size := by have := hA.size; simp at this; omega
  have B1 : Boxed wA w.heap.size 3 (.int .i64 h) := Boxed.below' (((Boxed.new w 3 (.int .i64 h)).alloc _).alloc _) hA
  have B2 : Boxed wA (w.heap.size + 1) 3 (.int .i64 t) := by
    have := (Boxed.new (w.alloc (.cells #[.int .i64 h] 3)) 3 (.int .i64 t)).alloc (.cells #[.int .i64 most] 3)
    rw [World.size_alloc] at this
    exact Boxed.below' this hA
  have B3 : Boxed wA (w.heap.size + 2) 3 (.int .i64 most) := by
    have := Boxed.new ((w.alloc (.cells #[.int .i64 h] 3)).alloc (.cells #[.int .i64 t] 3)) 3 (.int .i64 most)
    rw [World.size_alloc, World.size_alloc] at this
    exact Boxed.below' this hA
  have hbA : Below w.heap.size w wA := bOn b0 hA
  obtain ⟨G, hG⟩ : ∃ G, wA.heap.size = G := ⟨_, rfl⟩
  have bC : Boxed (((wA.alloc (.cells #[.slice none 0 0] 26)).alloc (.cells #[.slice a L cap] 22)).alloc (.cells #[.int .i64 to] 3)) G 26 (.slice none 0 0) := by rw [← hG]; exact ((Boxed.new wA 26 (.slice none 0 0)).alloc _).alloc _
  have bD : Boxed (((wA.alloc (.cells #[.slice none 0 0] 26)).alloc (.cells #[.slice a L cap] 22)).alloc (.cells #[.int .i64 to] 3)) (G + 1) 22 (.slice a L cap) := by
    have := (Boxed.new (wA.alloc (.cells #[.slice none 0 0] 26)) 22 (.slice a L cap)).alloc (.cells #[.int .i64 to] 3)
    rwa [World.size_alloc, hG] at this
  have bE : Boxed (((wA.alloc (.cells #[.slice none 0 0] 26)).alloc (.cells #[.slice a L cap] 22)).alloc (.cells #[.int .i64 to] 3)) (G + 2) 3 (.int .i64 to) := by
    have := Boxed.new ((wA.alloc (.cells #[.slice none 0 0] 26)).alloc (.cells #[.slice a L cap] 22)) 3 (.int .i64 to)
    rwa [World.size_alloc, World.size_alloc, hG] at this
  have B1' := ((B1.alloc (.cells #[.slice none 0 0] 26)).alloc (.cells #[.slice a L cap] 22)).alloc (.cells #[.int .i64 to] 3)
  have B2' := ((B2.alloc (.cells #[.slice none 0 0] 26)).alloc (.cells #[.slice a L cap] 22)).alloc (.cells #[.int .i64 to] 3)
  have B3' := ((B3.alloc (.cells #[.slice none 0 0] 26)).alloc (.cells #[.slice a L cap] 22)).alloc (.cells #[.int .i64 to] 3)
  have hB1 : Below wA.heap.size wA (((wA.alloc (.cells #[.slice none 0 0] 26)).alloc (.cells #[.slice a L cap] 22)).alloc (.cells #[.int .i64 to] 3)) := (((Below.refl _ _).alloc (Nat.le_refl _) _).alloc (by simp) _).alloc (by simp; omega) _
  have hsz : (((wA.alloc (.cells #[.slice none 0 0] 26)).alloc (.cells #[.slice a L cap] 22)).alloc (.cells #[.int .i64 to] 3)).heap.size = G + 3 := by simp [hG]
  have hbW := bOn hbA hB1
  have hCs := HV.out _ hbW
  rw [hG] at hw3 hB1
  have h000 : w.heap.size + 1 + 1 = w.heap.size + 2 := rfl
  have hG11 : G + 1 + 1 = G + 2 := rfl
  rw [hG, h000, hG11]
  have HS : Hid ((l.reverse.filter (may to)).foldl (stp most) ⟨[], h, t⟩ = planS to h t most l) := rfl
  have HLE : Hid (∀ c ∈ l.reverse.filter (may to), c ∈ l) := fun c hc => (filt_mem l c hc).1
  have hlr : (l.reverse.filter (may to)).length ≤ L := by have := List.length_filter_le (may to) l.reverse; rw [List.length_reverse, hL] at this; exact this
  generalize hW : ((wA.alloc (.cells #[.slice none 0 0] 26)).alloc (.cells #[.slice a L cap] 22)).alloc (.cells #[.int .i64 to] 3) = W0 at *
  have HLL := Lib.hid hL
  clear hW B1 B2 B3 hA b0 hbA H1 H2 H3 HA hL
  refine wpIn_rangeFunc_ownH rfl (by omega) (gf := 30) (lb := #[.pointer (some ⟨G + 1, 0, none⟩), .pointer (some ⟨G + 2, 0, none⟩)]) rfl trivial (enters_of Try.func30 (by kernel_rfl) rfl)
    (al_stops 7 (by omega) (G + 1) w.heap.size (.slice a L cap) l to W0 hCs hin (by omega) bD.cell bE.cell) (fun h k => h.trans k) (kb_b (by omega) (by omega)) (Below.refl _ _) (fun _ => rfl)
    (fun pre W => (∃ v, Boxed W G 26 v ∧ W.ownsRow (G + 3) 3 1 v (pre.foldl (stp most) ⟨[], h, t⟩).gone.length ((pre.foldl (stp most) ⟨[], h, t⟩).gone.map (Value.int .i64)) ∧ True) ∧
      (Boxed W w.heap.size 3 (.int .i64 (pre.foldl (stp most) ⟨[], h, t⟩).h) ∧ Boxed W (w.heap.size + 1) 3 (.int .i64 (pre.foldl (stp most) ⟨[], h, t⟩).t) ∧ Boxed W (w.heap.size + 2) 3 (.int .i64 most)) ∧ Below w.heap.size w W ∧ G + 3 ≤ W.heap.size)
    (fun c pre W => c = .exit 0 ∧ ((∃ v, Boxed W G 26 v ∧ W.ownsRow (G + 3) 3 1 v (pre.foldl (stp most) ⟨[], h, t⟩).gone.length ((pre.foldl (stp most) ⟨[], h, t⟩).gone.map (Value.int .i64)) ∧ True) ∧ ¬ ((pre.foldl (stp most) ⟨[], h, t⟩).gone.length : Int) < most ∧ Below w.heap.size w W))
    ?hI ?hIx ?h0 (fun x a' W => ∃ Bx, G + 2 < Bx ∧ BoxC W Bx x ∧ a' = { tmps := #[.int .i64 to, .int .i64 h, .int .i64 t, .slice a L cap, .int .i64 most, undef, .pointer (some ⟨w.heap.size, 0, none⟩), .pointer (some ⟨w.heap.size + 1, 0, none⟩), undef, .pointer (some ⟨w.heap.size + 2, 0, none⟩), .slice none 0 0, .int .i64 0, .pointer (some ⟨G, 0, none⟩), .pointer (some ⟨Bx, 0, none⟩), .slice a L cap, .int .i64 L, .bool false, .int .i64 to, .bool true, .bool false, .bool false, .int .i64 h, .bool true, .bool false, .bool false, .bool false, .int .i64 t, .bool true, .bool false, .bool false, .bool false, .int .i64 most, .bool false, .bool false, .bool false, .slice a L cap, .bool true, .bool false, .bool false, .slice a L cap, .int .i64 to, .func (.func 30) #[] #[.pointer (some ⟨G + 1, 0, none⟩), .pointer (some ⟨G + 2, 0, none⟩)], .agg #[.int .i64 x.id, .int .i64 x.wt, .int .u64 (x.m : Int)], undef, undef, undef, undef, undef, undef, undef, undef, undef, undef, undef, undef, undef, undef, undef, undef, undef, undef, undef, undef, undef, undef, undef], defers := [] }) ?hAx ?assign ?body ?done ?stop
  case hI =>
    exact OwnFrom.and (Go.Own.from (holdsRow_own (G + 3) G 26 3 1 (fun pre : List C => (pre.foldl (stp most) ⟨[], h, t⟩).gone.length) (fun pre => (pre.foldl (stp most) ⟨[], h, t⟩).gone.map (Value.int .i64)) (fun _ _ => True)) _)
      (OwnFrom.and (Go.Own.from (fun s A B row hs hg hr => ⟨boxed_own _ _ (fun pre : List C => .int .i64 (pre.foldl (stp most) ⟨[], h, t⟩).h) s A B row hs.1 hg hr, boxed_own _ _ (fun pre : List C => .int .i64 (pre.foldl (stp most) ⟨[], h, t⟩).t) s A B row hs.2.1 hg hr, boxed_own _ _ (fun pre : List C => .int .i64 most) s A B row hs.2.2 hg hr⟩) _) (OwnFrom.and (ownFrom_below (Nat.le_refl _) (by omega)) (fun s A B row hs hg hr => Nat.le_trans hs hg.size)))
  case hIx =>
    intro c
    exact OwnFrom.and (ownFrom_pure _ (fun _ : List C => c = .exit 0)) (OwnFrom.and (Go.Own.from (holdsRow_own (G + 3) G 26 3 1 (fun pre : List C => (pre.foldl (stp most) ⟨[], h, t⟩).gone.length) (fun pre => (pre.foldl (stp most) ⟨[], h, t⟩).gone.map (Value.int .i64)) (fun _ _ => True)) _)
      (OwnFrom.and (ownFrom_pure _ (fun pre : List C => ¬ ((pre.foldl (stp most) ⟨[], h, t⟩).gone.length : Int) < most)) (ownFrom_below (Nat.le_refl _) (by omega))))
  case h0 => exact ⟨⟨_, bC, World.ownsRow_nil _ _ _ _, trivial⟩, ⟨B1', B2', B3'⟩, hbW, by omega⟩
  case hAx =>
    rintro x a' s X Y row ⟨Bx, hBx, hX, e⟩ hg hr
    exact ⟨Bx, hBx, boxC_own Bx (fun _ : Unit => x) () X Y row hX hg (fun r e => (hr r e).2), e⟩
  case assign =>
    rintro yl pre ⟨ci, cw, cm⟩ W K ⟨⟨v, hv, hrow, -⟩, ⟨c1, c2, c3⟩, hB, hGW⟩ hK
    dsimp only [encsC]
    have h4' : decide (most < 0) = false := by simp; omega
    have hl' : decide (64 < (L : Int)) = false := by simp; omega
    have hWs := hB.size
    gi_wp2
    refine hK _ _ ((KeepsOthers.alloc _ _).from _) ((Kb.refl _ _ W).alloc _ hB.size (by omega)) ⟨⟨v, hv.alloc _, hrow.alloc _, trivial⟩, ⟨c1.alloc _, c2.alloc _, c3.alloc _⟩, hB.alloc hB.size _, by simp; omega⟩ ⟨W.heap.size, by omega, World.alloc_heap_new W _, ?_⟩
    simp
  case body =>
    rintro yl pre ⟨ci, cw, cm⟩ a' W hyl - ⟨⟨v, hv, hrow, -⟩, ⟨c1, c2, c3⟩, hB, hGW⟩ ⟨Bx, hBx, hX, rfl⟩ hlt
    have HF : Hid ((pre ++ [(⟨ci, cw, cm⟩ : C)]).foldl (stp most) ⟨[], h, t⟩ = stp most (pre.foldl (stp most) ⟨[], h, t⟩) ⟨ci, cw, cm⟩) := by unfold Hid; rw [List.foldl_append]; rfl
    have hok : Ok (pre.foldl (stp most) ⟨[], h, t⟩) := fold_ok (most := most) pre ⟨[], h, t⟩ ⟨hld1, hld2⟩
    have hle : ((pre.foldl (stp most) ⟨[], h, t⟩).gone.length : Int) ≤ most := fold_le (most := most) pre ⟨[], h, t⟩ (by simpa using h4)
    have hlen : (pre.foldl (stp most) ⟨[], h, t⟩).gone.length ≤ 64 := by have := fold_len (most := most) pre ⟨[], h, t⟩; have h5 := HLL.out; simp at this; omega
    generalize pre.foldl (stp most) ⟨[], h, t⟩ = s at *
    obtain ⟨g, sh, st⟩ := s
    dsimp only at hv hrow c1 c2 c3 hle hlen hok
    have hx0 : W.cell? ⟨Bx, 0, none⟩ = some (.int .i64 ci) := by simp [World.cell?, show W.heap[Bx]? = _ from hX]
    have hx1 : W.cell? ⟨Bx, 1, none⟩ = some (.int .i64 cw) := by simp [World.cell?, show W.heap[Bx]? = _ from hX]
    have hc1 := c1.cell
    have hc2 := c2.cell
    have hc3 := c3.cell
    have hcv := hv.cell
    obtain ⟨va, vc, rfl⟩ : ∃ va vc, v = .slice va g.length vc := by rcases hrow.2 with ⟨rfl, h0⟩ | ⟨_, _, _, rfl, _⟩; exact ⟨none, 0, by rw [h0]⟩; exact ⟨_, _, rfl⟩
    obtain ⟨gl, hgl⟩ : ∃ gl, g.length = gl := ⟨_, rfl⟩
    rw [hgl] at hcv hrow hv hle hlen
    clear bC bD bE B1' B2' B3' hlt hCs
    by_cases hm : (gl : Int) = most
    · have hfull : Hid (stp most ⟨g, sh, st⟩ ⟨ci, cw, cm⟩ = ⟨g, sh, st⟩) := stp_full _ (by simp [hgl]; omega)
      have hmm : (((gl : Int)) == most) = true := by simp [hm]
      gi_wp2
      refine ⟨KeepsFrom.refl _ _, rfl, ?_, ?_, hB⟩
      · rw [HF.out, hfull.out]; exact ⟨_, hv, by dsimp only; rw [hgl]; exact hrow⟩
      · rw [HF.out, hfull.out]; simp [hgl]; omega
    · have hmm : (((gl : Int)) == most) = false := by simpa using hm
      have hlt2 : (g.length : Int) < most := by omega
      cases hg : gain sh st cw with
      | false =>
        have hno : Hid (stp most ⟨g, sh, st⟩ ⟨ci, cw, cm⟩ = ⟨g, sh, st⟩) := stp_no hg
        have HG := Lib.hid hg
        clear hg
        gi_wp2_with (refine ⟨trivial, ?_⟩; gi_at_call 13; refine (CallsIn.inRound yl (callsIn_wide.2 (gain_any sh st cw _))).mono ?_; rintro e w' ⟨rfl, rfl⟩; rw [HG.out])
        refine ⟨KeepsFrom.refl _ _, Kb.refl _ _ _, ?_, ?_, hB, hGW⟩
        · rw [HF.out, hno.out]; exact ⟨_, hv, by dsimp only; rw [hgl]; exact hrow⟩
        · rw [HF.out, hno.out]; exact ⟨c1, c2, c3⟩
      | true =>
        have hyes : Hid (stp most ⟨g, sh, st⟩ ⟨ci, cw, cm⟩ = ⟨g ++ [ci], sh + cw, st - cw⟩) := stp_yes hg hlt2
        have hgi := (gain_iff _ _ _).1 hg
        have HG := Lib.hid hg
        clear hg
        gi_wp2_with (first
          | (refine ⟨trivial, ?_⟩; gi_at_call 13; refine (CallsIn.inRound yl (callsIn_wide.2 (gain_any sh st cw _))).mono ?_; rintro e w' ⟨rfl, rfl⟩; rw [HG.out])
          | (gi_at_builtin; refine wpListIn_append_own _ rfl _ _ 26 rfl (G + 3) 3 i0 (.int .i64 0) 1 8 Try.underlying26 hi hz0 hz1 hz2 rfl (by decide) _ _ _ rfl (hrow.alloc _) ⟨W.heap.size, 0, none⟩ 1 1 [.int .i64 ci] rfl rfl (cell_one_new _ _ _) (by simp [Value.oneCell']) (by unfold maxLen; omega) (by omega) (by simp; omega) ?_; intro v' w1 hown' hgrow _; obtain ⟨g', cap', rfl⟩ := ownsRow_succ hown'; obtain ⟨hv1, hv2, hr2, hk2, ho2, ht2, hu2, hs2, hb2⟩ := appendedB hv (by decide) hrow hown' hgrow; have hcv1 := hv1.cell; have hfv1 := hv1.frozen))
        have hne2 : ∀ i, i < G + 3 → some i ≠ (Value.slice va gl vc).ownBlock := by
          intro i hi e
          have := (World.ownsRow.lt hrow i e.symm).1
          omega
        have d1 : Boxed _ w.heap.size 3 (.int .i64 sh) := (hb2 w.heap.size (by omega) (by omega) (hne2 _ (by omega))).trans c1
        have d2 : Boxed _ (w.heap.size + 1) 3 (.int .i64 st) := (hb2 (w.heap.size + 1) (by omega) (by omega) (hne2 _ (by omega))).trans c2
        have d3 : Boxed _ (w.heap.size + 2) 3 (.int .i64 most) := (hb2 (w.heap.size + 2) (by omega) (by omega) (hne2 _ (by omega))).trans c3
        have dX : BoxC _ Bx ⟨ci, cw, cm⟩ := (hb2 Bx (Array.getElem?_eq_some_iff.1 hX).1 (by omega) (boxC_not_row hX hrow)).trans hX
        have dG1 := hb2 (G + 1) (by omega) (by omega) (hne2 _ (by omega))
        have dG2 := hb2 (G + 2) (by omega) (by omega) (hne2 _ (by omega))
        have dB : Below w.heap.size W _ := ⟨ho2, ht2, hu2, hs2, fun i hi => hb2 i (by omega) (by omega) (hne2 i (by omega))⟩
        clear hb2 ho2 ht2 hu2 hown' hgrow hcv1 hfv1 hv1 hx0 hx1 hc1 hc2 hc3 hcv
        generalize w1.setCell ⟨G, 0, none⟩ (Value.slice (some ⟨g', 0, none⟩) (gl + 1) cap') = W2 at *
        have dK : Kb w.heap.size (G + 1) W W2 := ⟨dB, by simp only [World.cell?]; rw [dG1], by simp only [World.cell?]; rw [dG2]⟩
        have hx1 : W2.cell? ⟨Bx, 1, none⟩ = some (.int .i64 cw) := by simp [World.cell?, show W2.heap[Bx]? = _ from dX]
        have hc1 := d1.cell
        have hc2 := d2.cell
        have hf1 := d1.frozen
        have hf2 := d2.frozen
        have hG2 := HG.out
        have hG2 := hgi
        refine reg11 yl _ _ Bx sh st cw W2 hc1 hf1 hc2 hf2 hx1 (by omega) (by omega) (by omega) (by omega) (by omega) (by omega) (by omega) (by omega) (by omega) ?_
        gi_wp2
        have e1 := hyes.out
        refine ⟨(((hk2.trans (KeepsOthers.setCell _ _ _)).trans (KeepsOthers.setCell _ _ _)).trans (KeepsOthers.drew _)).from _, ((dK.setCell w.heap.size _ (Nat.le_refl _) (by omega)).setCell (w.heap.size + 1) _ (by omega) (by omega)).drew, ?_, ?_, ?_, ?_⟩
        · rw [HF.out, e1]
          refine ⟨_, (hv2.other (by omega) _).other (by omega) _, ?_⟩
          have r1 := World.ownsRow.kept hr2 (grownBy_setCell' W2 w.heap.size (.int .i64 (sh + cw))) (.inr (by simp [Value.ownBlock]; have := (World.ownsRow.lt hr2 g' rfl).1; omega))
          have r2 := World.ownsRow.kept r1 (grownBy_setCell' _ (w.heap.size + 1) (.int .i64 (st - cw))) (.inr (by simp [Value.ownBlock]; have := (World.ownsRow.lt hr2 g' rfl).1; omega))
          simp only [List.length_append, List.length_singleton, List.map_append, List.map_cons, List.map_nil, hgl]
          exact r2
        · rw [HF.out, e1]
          exact ⟨(d1.set _).other (by omega) _, (d2.other (by omega) _).set _, (d3.other (by omega) _).other (by omega) _⟩
        · exact (((hB.trans dB).setCell (p := ⟨w.heap.size, 0, none⟩) (Nat.le_refl _) _).setCell (p := ⟨w.heap.size + 1, 0, none⟩) (by simp) _).drew
        · simp; omega
  case done =>
    rintro D ys W hD rfl ⟨⟨v, hv, hrow, -⟩, -, hB, hGW⟩ hK
    have hc := hv.cell
    rw [HS.out] at hrow
    clear bC bD bE B1' B2' B3' hCs
    gi_wp2
    refine ⟨by simp, .inl ⟨_, _, rfl, run_takeDeferred hK, ?_⟩⟩
    exact ⟨_, results_tmp2 rfl _ _ _, v, G + 3, by omega, rfl, ownsRow_putObj hrow _ hK rfl, hB.trans (belowK_b (w := W0) (by omega) W D _ _ hD hK rfl rfl)⟩
  case stop =>
    rintro D c pre W hD ⟨ts, hts⟩ ⟨rfl, ⟨v, hv, hrow, -⟩, hfull, hB⟩ hK
    have hc := hv.cell
    have hp : planS to h t most l = pre.foldl (stp most) ⟨[], h, t⟩ := by rw [← HS.out, ← hts, List.foldl_append]; exact fold_full ts hfull
    rw [← hp] at hrow
    clear bC bD bE B1' B2' B3' hCs hfull hp
    gi_wp2
    refine ⟨by simp, .inl ⟨_, _, rfl, run_takeDeferred hK, ?_⟩⟩
    exact ⟨_, results_tmp2 rfl _ _ _, v, G + 3, by omega, rfl, ownsRow_putObj hrow _ hK rfl, hB.trans (belowK_b (w := W0) (by omega) W D _ _ hD hK rfl rfl)⟩
end Go.Proofs.Ytnjbcblhciblcaa
