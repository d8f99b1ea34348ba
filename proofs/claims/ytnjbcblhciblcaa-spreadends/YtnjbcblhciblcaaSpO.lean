/-
  A region of Plan's body that draws its order: here and there as they are behind one that goes. Of whatever rest of the frame.
-/
import Derived.Test.YtnjbcblhciblcaaSpI
import Derived.Test.YtnjbcblhciblcaaRgs
namespace Go.Proofs.Ytnjbcblhciblcaa
open Go.RowKit Go.Shelf Mk Sp
attribute [local go_sem] Oper.semAt_some

def cond11 : Nat → Array Bool → Bool := fun i L => match i with | 0 => !bitL L 8 | 1 => true | 2 => bitL L 1 | 3 => bitL L 0 && bitL L 2 | 4 => !bitL L 9 | 5 => true | 6 => bitL L 5 | 7 => bitL L 4 && bitL L 6 | 8 => bitL L 3 && (!bitL L 8 && !bitL L 9) | 9 => bitL L 7 && (bitL L 8 && !bitL L 9) | _ => false
abbrev ops11 : Array Oper := #[{ dst := some 57, op := Op.load 3 (Operand.tmp 6), type := 3, pos := "spread.go:27", after := #[], guard := none }, { dst := some 58, op := Op.fieldAddr 41 (Operand.tmp 13) 1, type := 0, pos := "spread.go:27", after := #[], guard := none }, { dst := some 59, op := Op.load 3 (Operand.tmp 58), type := 3, pos := "spread.go:27", after := #[{ on := 1, ground := Ground.data }], guard := none }, { dst := some 60, op := Op.binOp BinOp.add 3 (Operand.tmp 57) (Operand.tmp 59) 3, type := 3, pos := "spread.go:27", after := #[{ on := 0, ground := Ground.data }, { on := 2, ground := Ground.data }], guard := none }, { dst := some 61, op := Op.load 3 (Operand.tmp 7), type := 3, pos := "spread.go:27", after := #[], guard := none }, { dst := some 62, op := Op.fieldAddr 41 (Operand.tmp 13) 1, type := 0, pos := "spread.go:27", after := #[], guard := none }, { dst := some 63, op := Op.load 3 (Operand.tmp 62), type := 3, pos := "spread.go:27", after := #[{ on := 5, ground := Ground.data }], guard := none }, { dst := some 64, op := Op.binOp BinOp.sub 3 (Operand.tmp 61) (Operand.tmp 63) 3, type := 3, pos := "spread.go:27", after := #[{ on := 4, ground := Ground.data }, { on := 6, ground := Ground.data }], guard := none }, { dst := none, op := Op.store 3 (Operand.tmp 6) (Operand.tmp 60), type := 0, pos := "spread.go:27", after := #[{ on := 3, ground := Ground.data }, { on := 0, ground := Ground.phase }, { on := 1, ground := Ground.phase }, { on := 2, ground := Ground.phase }, { on := 3, ground := Ground.phase }, { on := 4, ground := Ground.textOnly Departure.inlinedCapture }, { on := 5, ground := Ground.textOnly Departure.lateStores }, { on := 6, ground := Ground.textOnly Departure.lateStores }, { on := 7, ground := Ground.textOnly Departure.inlinedCapture }], guard := none }, { dst := none, op := Op.store 3 (Operand.tmp 7) (Operand.tmp 64), type := 0, pos := "spread.go:27", after := #[{ on := 7, ground := Ground.data }, { on := 8, ground := Ground.chain }, { on := 0, ground := Ground.phase }, { on := 1, ground := Ground.phase }, { on := 2, ground := Ground.phase }, { on := 3, ground := Ground.phase }, { on := 4, ground := Ground.phase }, { on := 5, ground := Ground.phase }, { on := 6, ground := Ground.phase }, { on := 7, ground := Ground.phase }, { on := 8, ground := Ground.phase }], guard := none }]
set_option maxRecDepth 100000 in
theorem closed11 : closedB .any ops11 cond11 (reachOf .any ops11 ops11.size [Array.replicate ops11.size false]) = true := by kernel_rfl

def V11 (A B : Nat) (sh st cw : Int) (W : World) (L : Array Bool) : World :=
  if bitL L 8 then (if bitL L 9 then (W.drew.setCell ⟨A, 0, none⟩ (.int .i64 (sh + cw))).setCell ⟨B, 0, none⟩ (.int .i64 (st - cw)) else W.drew.setCell ⟨A, 0, none⟩ (.int .i64 (sh + cw))) else W.drew
theorem V11_other {A B : Nat} {sh st cw : Int} {W : World} {L : Array Bool} {b j : Nat} (hA : A ≠ b) (hB : B ≠ b) : (V11 A B sh st cw W L).cell? ⟨b, j, none⟩ = W.cell? ⟨b, j, none⟩ := by
  unfold V11
  have e : ∀ (X : World) (q : Nat) (x : Value), q ≠ b → (X.setCell ⟨q, 0, none⟩ x).cell? ⟨b, j, none⟩ = X.cell? ⟨b, j, none⟩ := fun X q x h => World.cell?_setCell_other _ _ _ _ (fun e => h (congrArg Addr.block e))
  split
  · split
    · rw [e _ _ _ hB, e _ _ _ hA]; rfl
    · rw [e _ _ _ hA]; rfl
  · rfl
theorem V11_B {A B : Nat} {sh st cw : Int} {W : World} {L : Array Bool} (hA : A ≠ B) (h9 : bitL L 9 = false) : (V11 A B sh st cw W L).cell? ⟨B, 0, none⟩ = W.cell? ⟨B, 0, none⟩ := by
  unfold V11
  rw [h9]
  split
  · exact (World.cell?_setCell_other _ _ _ _ (fun e => hA (congrArg Addr.block e))).trans rfl
  · rfl

set_option maxRecDepth 100000 in
set_option maxHeartbeats 8000000 in
theorem reg11 (yl A B Bx : Nat) (sh st cw : Int) (W : World) (hA : W.cell? ⟨A, 0, none⟩ = some (.int .i64 sh)) (fA : W.frozen? ⟨A, 0, none⟩ = false) (hB : W.cell? ⟨B, 0, none⟩ = some (.int .i64 st)) (fB : W.frozen? ⟨B, 0, none⟩ = false)
    (hX : W.cell? ⟨Bx, 1, none⟩ = some (.int .i64 cw)) (hAB : A ≠ B) (hAX : A ≠ Bx) (hBX : B ≠ Bx) (h1 : 0 ≤ sh) (h2 : sh ≤ 1099511627776) (h3 : 0 ≤ st) (h4 : st ≤ 1099511627776) (h5 : 1 ≤ cw) (h6 : 2 * cw ≤ st - sh)
    {s0 s1 s2 s3 s4 s5 s8 s9 s10 s11 s12 s14 s15 s16 s17 s18 s19 s20 s21 s22 s23 s24 s25 s26 s27 s28 s29 s30 s31 s32 s33 s34 s35 s36 s37 s38 s39 s40 s41 s42 s43 s44 s45 s46 s47 s48 s49 s50 s51 s52 s53 s54 s55 s56 s57 s58 s59 s60 s61 s62 s63 s64 s65 : Value} {Q : Exit → Act → World → Prop}
    (hQ : Q .normal { tmps := #[s0, s1, s2, s3, s4, s5, .pointer (some ⟨A, 0, none⟩), .pointer (some ⟨B, 0, none⟩), s8, s9, s10, s11, s12, .pointer (some ⟨Bx, 0, none⟩), s14, s15, s16, s17, s18, s19, s20, s21, s22, s23, s24, s25, s26, s27, s28, s29, s30, s31, s32, s33, s34, s35, s36, s37, s38, s39, s40, s41, s42, s43, s44, s45, s46, s47, s48, s49, s50, s51, s52, s53, s54, s55, s56, .int .i64 sh, .pointer (some ⟨Bx, 1, none⟩), .int .i64 cw, .int .i64 (sh + cw), .int .i64 st, .pointer (some ⟨Bx, 1, none⟩), .int .i64 cw, .int .i64 (st - cw), s65], defers := [] } ((W.drew.setCell ⟨A, 0, none⟩ (.int .i64 (sh + cw))).setCell ⟨B, 0, none⟩ (.int .i64 (st - cw)))) :
    (Code.region 11 ops11 true).wpIn (Fence.wide.inRound yl) (8 - 1 - 1) Try.prog Q { tmps := #[s0, s1, s2, s3, s4, s5, .pointer (some ⟨A, 0, none⟩), .pointer (some ⟨B, 0, none⟩), s8, s9, s10, s11, s12, .pointer (some ⟨Bx, 0, none⟩), s14, s15, s16, s17, s18, s19, s20, s21, s22, s23, s24, s25, s26, s27, s28, s29, s30, s31, s32, s33, s34, s35, s36, s37, s38, s39, s40, s41, s42, s43, s44, s45, s46, s47, s48, s49, s50, s51, s52, s53, s54, s55, s56, s57, s58, s59, s60, s61, s62, s63, s64, s65], defers := [] } W := by
  refine wpIn_region_state (by kernel_rfl) (fun L => { tmps := #[s0, s1, s2, s3, s4, s5, .pointer (some ⟨A, 0, none⟩), .pointer (some ⟨B, 0, none⟩), s8, s9, s10, s11, s12, .pointer (some ⟨Bx, 0, none⟩), s14, s15, s16, s17, s18, s19, s20, s21, s22, s23, s24, s25, s26, s27, s28, s29, s30, s31, s32, s33, s34, s35, s36, s37, s38, s39, s40, s41, s42, s43, s44, s45, s46, s47, s48, s49, s50, s51, s52, s53, s54, s55, s56, (if bitL L 0 then Value.int .i64 sh else s57), (if bitL L 1 then Value.pointer (some ⟨Bx, 1, none⟩) else s58), (if bitL L 2 then Value.int .i64 cw else s59), (if bitL L 3 then Value.int .i64 (sh + cw) else s60), (if bitL L 4 then Value.int .i64 st else s61), (if bitL L 5 then Value.pointer (some ⟨Bx, 1, none⟩) else s62), (if bitL L 6 then Value.int .i64 cw else s63), (if bitL L 7 then Value.int .i64 (st - cw) else s64), s65], defers := [] }) (V11 A B sh st cw W) cond11 closed11 rfl rfl ?_ ?_
  · intro L hL i hi hc K hK
    have hs : L.size = 10 := hL
    have hset := fun (i j : Nat) (h : i < 10) => bit_set (L := L) (i := i) (by rw [hs]; exact h) j
    have hVX : (V11 A B sh st cw W L).cell? ⟨Bx, 1, none⟩ = some (.int .i64 cw) := (V11_other hAX hBX).trans hX
    have ew3 : IntKind.i64.wrap (sh + cw) = sh + cw := by rw [IntKind.wrap_i64]; omega
    have ew7 : IntKind.i64.wrap (st - cw) = st - cw := by rw [IntKind.wrap_i64]; omega
    match i, hi, hc with
    | 0, _, hc =>
      have hc' : (!bitL L 8) = true := hc
      have g : bitL L 8 = false := by simpa using hc'
      have hV : V11 A B sh st cw W (L.setIfInBounds 0 true) = V11 A B sh st cw W L := by unfold V11; simp only [hset 0 _ (by decide), Nat.reduceEqDiff, decide_false, Bool.false_or]
      rw [hV] at hK
      have hV0 : V11 A B sh st cw W L = W.drew := by unfold V11; rw [g]; rfl
      rw [hV0] at hK ⊢
      simp only [hset 0 _ (by decide), Nat.reduceEqDiff, decide_true, decide_false, Bool.true_or, Bool.false_or, if_true] at hK
      refine wpOpIn_step' (o := { dst := some 57, op := Op.load 3 (Operand.tmp 6), type := 3, pos := "spread.go:27", after := #[], guard := none }) rfl ?_
      dsimp only
      go_simp
      exact hK
    | 1, _, hc =>
      have hc' : (true) = true := hc
      have hV : V11 A B sh st cw W (L.setIfInBounds 1 true) = V11 A B sh st cw W L := by unfold V11; simp only [hset 1 _ (by decide), Nat.reduceEqDiff, decide_false, Bool.false_or]
      rw [hV] at hK
      simp only [hset 1 _ (by decide), Nat.reduceEqDiff, decide_true, decide_false, Bool.true_or, Bool.false_or, if_true] at hK
      refine wpOpIn_step' (o := { dst := some 58, op := Op.fieldAddr 41 (Operand.tmp 13) 1, type := 0, pos := "spread.go:27", after := #[], guard := none }) rfl ?_
      dsimp only
      go_simp
      exact hK
    | 2, _, hc =>
      have hc' : (bitL L 1) = true := hc
      have g1 : bitL L 1 = true := hc'
      have hV : V11 A B sh st cw W (L.setIfInBounds 2 true) = V11 A B sh st cw W L := by unfold V11; simp only [hset 2 _ (by decide), Nat.reduceEqDiff, decide_false, Bool.false_or]
      rw [hV] at hK
      simp only [hset 2 _ (by decide), Nat.reduceEqDiff, decide_true, decide_false, Bool.true_or, Bool.false_or, if_true] at hK
      simp only [g1, if_true] at hK
      refine wpOpIn_step' (o := { dst := some 59, op := Op.load 3 (Operand.tmp 58), type := 3, pos := "spread.go:27", after := #[{ on := 1, ground := Ground.data }], guard := none }) rfl ?_
      simp only [g1, if_true]
      go_simp
      exact hK
    | 3, _, hc =>
      have hc' : (bitL L 0 && bitL L 2) = true := hc
      obtain ⟨g1, g2⟩ : bitL L 0 = true ∧ bitL L 2 = true := by simpa using hc'
      have hV : V11 A B sh st cw W (L.setIfInBounds 3 true) = V11 A B sh st cw W L := by unfold V11; simp only [hset 3 _ (by decide), Nat.reduceEqDiff, decide_false, Bool.false_or]
      rw [hV] at hK
      simp only [hset 3 _ (by decide), Nat.reduceEqDiff, decide_true, decide_false, Bool.true_or, Bool.false_or, if_true] at hK
      simp only [g1, g2, if_true] at hK
      refine wpOpIn_step' (o := { dst := some 60, op := Op.binOp BinOp.add 3 (Operand.tmp 57) (Operand.tmp 59) 3, type := 3, pos := "spread.go:27", after := #[{ on := 0, ground := Ground.data }, { on := 2, ground := Ground.data }], guard := none }) rfl ?_
      simp only [g1, g2, if_true]
      go_simp
      exact hK
    | 4, _, hc =>
      have hc' : (!bitL L 9) = true := hc
      have g : bitL L 9 = false := by simpa using hc'
      have hV : V11 A B sh st cw W (L.setIfInBounds 4 true) = V11 A B sh st cw W L := by unfold V11; simp only [hset 4 _ (by decide), Nat.reduceEqDiff, decide_false, Bool.false_or]
      rw [hV] at hK
      have hVB : (V11 A B sh st cw W L).cell? ⟨B, 0, none⟩ = some (.int .i64 st) := (V11_B hAB g).trans hB
      simp only [hset 4 _ (by decide), Nat.reduceEqDiff, decide_true, decide_false, Bool.true_or, Bool.false_or, if_true] at hK
      refine wpOpIn_step' (o := { dst := some 61, op := Op.load 3 (Operand.tmp 7), type := 3, pos := "spread.go:27", after := #[], guard := none }) rfl ?_
      dsimp only
      go_simp
      exact hK
    | 5, _, hc =>
      have hc' : (true) = true := hc
      have hV : V11 A B sh st cw W (L.setIfInBounds 5 true) = V11 A B sh st cw W L := by unfold V11; simp only [hset 5 _ (by decide), Nat.reduceEqDiff, decide_false, Bool.false_or]
      rw [hV] at hK
      simp only [hset 5 _ (by decide), Nat.reduceEqDiff, decide_true, decide_false, Bool.true_or, Bool.false_or, if_true] at hK
      refine wpOpIn_step' (o := { dst := some 62, op := Op.fieldAddr 41 (Operand.tmp 13) 1, type := 0, pos := "spread.go:27", after := #[], guard := none }) rfl ?_
      dsimp only
      go_simp
      exact hK
    | 6, _, hc =>
      have hc' : (bitL L 5) = true := hc
      have g1 : bitL L 5 = true := hc'
      have hV : V11 A B sh st cw W (L.setIfInBounds 6 true) = V11 A B sh st cw W L := by unfold V11; simp only [hset 6 _ (by decide), Nat.reduceEqDiff, decide_false, Bool.false_or]
      rw [hV] at hK
      simp only [hset 6 _ (by decide), Nat.reduceEqDiff, decide_true, decide_false, Bool.true_or, Bool.false_or, if_true] at hK
      simp only [g1, if_true] at hK
      refine wpOpIn_step' (o := { dst := some 63, op := Op.load 3 (Operand.tmp 62), type := 3, pos := "spread.go:27", after := #[{ on := 5, ground := Ground.data }], guard := none }) rfl ?_
      simp only [g1, if_true]
      go_simp
      exact hK
    | 7, _, hc =>
      have hc' : (bitL L 4 && bitL L 6) = true := hc
      obtain ⟨g1, g2⟩ : bitL L 4 = true ∧ bitL L 6 = true := by simpa using hc'
      have hV : V11 A B sh st cw W (L.setIfInBounds 7 true) = V11 A B sh st cw W L := by unfold V11; simp only [hset 7 _ (by decide), Nat.reduceEqDiff, decide_false, Bool.false_or]
      rw [hV] at hK
      simp only [hset 7 _ (by decide), Nat.reduceEqDiff, decide_true, decide_false, Bool.true_or, Bool.false_or, if_true] at hK
      simp only [g1, g2, if_true] at hK
      refine wpOpIn_step' (o := { dst := some 64, op := Op.binOp BinOp.sub 3 (Operand.tmp 61) (Operand.tmp 63) 3, type := 3, pos := "spread.go:27", after := #[{ on := 4, ground := Ground.data }, { on := 6, ground := Ground.data }], guard := none }) rfl ?_
      simp only [g1, g2, if_true]
      go_simp
      exact hK
    | 8, _, hc =>
      have hc' : (bitL L 3 && (!bitL L 8 && !bitL L 9)) = true := hc
      obtain ⟨g1, g2, g3⟩ : bitL L 3 = true ∧ bitL L 8 = false ∧ bitL L 9 = false := by simpa using hc'
      have hV0 : V11 A B sh st cw W L = W.drew := by unfold V11; rw [g2]; rfl
      have hV1 : V11 A B sh st cw W (L.setIfInBounds 8 true) = W.drew.setCell ⟨A, 0, none⟩ (.int .i64 (sh + cw)) := by unfold V11; simp only [hset 8 _ (by decide), Nat.reduceEqDiff, decide_true, decide_false, Bool.true_or, Bool.false_or, g3, if_true]; rfl
      rw [hV0]
      rw [hV1] at hK
      simp only [hset 8 _ (by decide), Nat.reduceEqDiff, decide_false, Bool.false_or] at hK
      simp only [g1, if_true] at hK
      refine wpOpIn_step' (o := { dst := none, op := Op.store 3 (Operand.tmp 6) (Operand.tmp 60), type := 0, pos := "spread.go:27", after := #[{ on := 3, ground := Ground.data }, { on := 0, ground := Ground.phase }, { on := 1, ground := Ground.phase }, { on := 2, ground := Ground.phase }, { on := 3, ground := Ground.phase }, { on := 4, ground := Ground.textOnly Departure.inlinedCapture }, { on := 5, ground := Ground.textOnly Departure.lateStores }, { on := 6, ground := Ground.textOnly Departure.lateStores }, { on := 7, ground := Ground.textOnly Departure.inlinedCapture }], guard := none }) rfl ?_
      simp only [g1, if_true]
      go_simp
      exact hK
    | 9, _, hc =>
      have hc' : (bitL L 7 && (bitL L 8 && !bitL L 9)) = true := hc
      obtain ⟨g1, g2, g3⟩ : bitL L 7 = true ∧ bitL L 8 = true ∧ bitL L 9 = false := by simpa using hc'
      have hV0 : V11 A B sh st cw W L = W.drew.setCell ⟨A, 0, none⟩ (.int .i64 (sh + cw)) := by unfold V11; rw [g2, g3]; rfl
      have hV1 : V11 A B sh st cw W (L.setIfInBounds 9 true) = (W.drew.setCell ⟨A, 0, none⟩ (.int .i64 (sh + cw))).setCell ⟨B, 0, none⟩ (.int .i64 (st - cw)) := by unfold V11; simp only [hset 9 _ (by decide), Nat.reduceEqDiff, decide_true, decide_false, Bool.true_or, Bool.false_or, g2, if_true]
      have hB1 : (W.drew.setCell ⟨A, 0, none⟩ (.int .i64 (sh + cw))).cell? ⟨B, 0, none⟩ = some (.int .i64 st) := (World.cell?_setCell_other _ _ _ _ (fun e => hAB (congrArg Addr.block e))).trans hB
      rw [hV0]
      rw [hV1] at hK
      simp only [hset 9 _ (by decide), Nat.reduceEqDiff, decide_false, Bool.false_or] at hK
      simp only [g1, if_true] at hK
      refine wpOpIn_step' (o := { dst := none, op := Op.store 3 (Operand.tmp 7) (Operand.tmp 64), type := 0, pos := "spread.go:27", after := #[{ on := 7, ground := Ground.data }, { on := 8, ground := Ground.chain }, { on := 0, ground := Ground.phase }, { on := 1, ground := Ground.phase }, { on := 2, ground := Ground.phase }, { on := 3, ground := Ground.phase }, { on := 4, ground := Ground.phase }, { on := 5, ground := Ground.phase }, { on := 6, ground := Ground.phase }, { on := 7, ground := Ground.phase }, { on := 8, ground := Ground.phase }], guard := none }) rfl ?_
      simp only [g1, if_true]
      go_simp
      exact hK
    | i + 10, hi, _ => exact absurd hi (by show ¬ i + 10 < 10; omega)
  · intro L hL h0
    have hs : L.size = 10 := hL
    have hb := fun (j : Nat) (h : j < 10) => bits_done h0 (j := j) (by rw [hs]; exact h)
    unfold V11
    simp only [hb 0 (by decide), hb 1 (by decide), hb 2 (by decide), hb 3 (by decide), hb 4 (by decide), hb 5 (by decide), hb 6 (by decide), hb 7 (by decide), hb 8 (by decide), hb 9 (by decide), if_true]
    exact hQ
end Go.Proofs.Ytnjbcblhciblcaa
