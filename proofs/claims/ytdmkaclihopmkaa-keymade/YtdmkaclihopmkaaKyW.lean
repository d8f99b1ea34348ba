/-
  Contract of awake: what any right program answers, it answers.
-/
import Derived.Test.YtdmkaclihopmkaaKyG
import Derived.Test.YtdmkaclihopmkaaKyX
namespace Go.Proofs.Ytdmkaclihopmkaa
open Go.RowKit Go.Sort Wd Tn Ky

def kA : K := (18446744073709551615, 7)
def kB : K := (0, 3)
def kC : K := (0, 4)
def mA : Int := 18446744073709551611
theorem lt_AB : ltK mA kA kB = true := by decide
theorem lt_BC : ltK mA kB kC = true := by decide
theorem lt_AC : ltK mA kA kC = true := by decide
theorem srt_cba : srtK mA [kC, kB, kA] = [kA, kB, kC] := by decide
theorem ok_abc : okK mA [kA, kB, kC] := by
  unfold okK
  simp [lt_AB, lt_BC, lt_AC]
  decide
theorem ok_ac : okK mA [kA, kC] := by
  unfold okK
  simp [lt_AC]
  decide
theorem ok_abc0 : okK 0 [kA, kB, kC] := by
  unfold okK
  have h1 : ltK 0 kA kB = true := by decide
  have h2 : ltK 0 kA kC = true := by decide
  have h3 : ltK 0 kB kC = true := by decide
  simp [h1, h2, h3]
  decide
theorem put_b : putE mA [kA, kC] kB = 0 ∧ putL mA [kA, kC] kB = [kA, kB, kC] := by
  obtain ⟨h1, h2⟩ := put_new ok_ac (k := kB) (by decide)
  exact ⟨h1, h2.trans (by decide)⟩
theorem put_again : putE mA [kA, kB, kC] kB = 1 := (put_has ok_abc (k := kB) (by decide)).1
theorem drop_3 : dropE mA [kA, kB, kC] 3 = 0 ∧ dropL mA [kA, kB, kC] 3 = [kA, kC] := by
  obtain ⟨h1, h2⟩ := drop_has ok_abc (id := 3) (by decide)
  exact ⟨h1, h2.trans (by decide)⟩
theorem drop_30 : dropE 0 [kA, kB, kC] 3 = 0 := (drop_has ok_abc0 (id := 3) (by decide)).1
theorem first_a : firstK 0 [kA, kB, kC] = kA := by decide
theorem kin_A : Kin kA := by unfold Kin U I M kA; omega
theorem kin_B : Kin kB := by unfold Kin U I M kB; omega
theorem kin_C : Kin kC := by unfold Kin U I M kC; omega
theorem kin_abc : ∀ x ∈ [kA, kB, kC], Kin x := by
  intro x hx
  simp only [List.mem_cons, List.not_mem_nil, or_false] at hx
  rcases hx with rfl | rfl | rfl
  · exact kin_A
  · exact kin_B
  · exact kin_C
theorem kin_cba : ∀ x ∈ [kC, kB, kA], Kin x := fun x hx => kin_abc x (by simp only [List.mem_cons, List.not_mem_nil, or_false] at *; rcases hx with h | h | h <;> simp [h])
theorem kin_ac : ∀ x ∈ [kA, kC], Kin x := fun x hx => kin_abc x (by simp only [List.mem_cons, List.not_mem_nil, or_false] at *; rcases hx with h | h <;> simp [h])

/-- What the law's three boxes hold. -/
def Bx (w : World) (n : Nat) : Prop := Kb w n kA ∧ Kb w (n + 1) kB ∧ Kb w (n + 1 + 1) kC
theorem Bx.below {w w' : World} {n : Nat} (h : Bx w n) (hb : Below w.heap.size w w') : Bx w' n := ⟨h.1.below hb h.1.lt, h.2.1.below hb h.2.1.lt, h.2.2.below hb h.2.2.lt⟩
theorem Bx.all {w : World} {n : Nat} (h : Bx w n) : w.cell? ⟨n, 0, none⟩ = some (.int .u64 18446744073709551615) ∧ w.cell? ⟨n, 1, none⟩ = some (.int .i64 7) ∧ w.cell? ⟨n + 1, 0, none⟩ = some (.int .u64 0) ∧ w.cell? ⟨n + 1, 1, none⟩ = some (.int .i64 3) ∧ w.cell? ⟨n + 1 + 1, 0, none⟩ = some (.int .u64 0) ∧ w.cell? ⟨n + 1 + 1, 1, none⟩ = some (.int .i64 4) :=
  ⟨h.1.all.1, h.1.all.2.1, h.2.1.all.1, h.2.1.all.2.1, h.2.2.all.1, h.2.2.all.2.1⟩
theorem Bx.new (W : World) : Bx (((W.alloc (.cells #[.int .u64 18446744073709551615, .int .i64 7] 26)).alloc (.cells #[.int .u64 0, .int .i64 3] 26)).alloc (.cells #[.int .u64 0, .int .i64 4] 26)) W.heap.size := by
  have h1 := Kb.new W kA
  have h2 := Kb.new (W.alloc (.cells #[.int .u64 18446744073709551615, .int .i64 7] 26)) kB
  have h3 := Kb.new ((W.alloc (.cells #[.int .u64 18446744073709551615, .int .i64 7] 26)).alloc (.cells #[.int .u64 0, .int .i64 3] 26)) kC
  rw [show (W.alloc (.cells #[.int .u64 18446744073709551615, .int .i64 7] 26)).heap.size = W.heap.size + 1 by simp] at h2
  rw [show ((W.alloc (.cells #[.int .u64 18446744073709551615, .int .i64 7] 26)).alloc (.cells #[.int .u64 0, .int .i64 3] 26)).heap.size = W.heap.size + 1 + 1 by simp] at h3
  exact ⟨(h1.gr (Gr.alloc _ _)).gr (Gr.alloc _ _), h2.gr (Gr.alloc _ _), h3⟩
/-- A slice just laid, of three keys. -/
theorem lit_keys (w : World) (l : List K) (hl : l.length ≤ 3) (hk : ∀ x ∈ l, Kin x) (vs : Array Value) (hvs : vs = (cellsK l).toArray) (n : Nat) (hn : n = l.length) : Keys (w.alloc (.cells vs 26)) (.slice (some ⟨w.heap.size, 0, none⟩) n n) l :=
  keys_new w _ l hk vs hvs n hn _ rfl n ⟨by omega, by unfold maxLen; omega⟩

set_option maxHeartbeats 800000 in
set_option maxRecDepth 100000 in
theorem awake_any (W : World) : Calls Try.prog 9 #[] W fun e w' => e = .returned (.bool true) ∧ Below W.heap.size W w' := by
  obtain ⟨w0, hw0⟩ : ∃ w0, w0 = ((W.alloc (.cells #[.int .u64 18446744073709551615, .int .i64 7] 26)).alloc (.cells #[.int .u64 0, .int .i64 3] 26)).alloc (.cells #[.int .u64 0, .int .i64 4] 26) := ⟨_, rfl⟩
  have HX0 : Hid (Bx w0 W.heap.size) := Lib.hid (hw0 ▸ Bx.new W)
  have HB0 : Hid (Below W.heap.size W w0) := Lib.hid (hw0 ▸ ((((Gr.alloc _ _).trans (Gr.alloc _ _)).trans (Gr.alloc _ _)).below))
  have HS0 : Hid (W.heap.size + 1 + 1 + 1 = w0.heap.size) := Lib.hid (by rw [hw0]; simp)
  have HW0 := Lib.hid hw0
  clear hw0
  go_enter Try.func9, Try.ntmps9
  go_wp2_with fail
  rw [← HW0.out, HS0.out]
  refine (sort_any mA (lit_keys w0 [kC, kB, kA] (by decide) kin_cba _ rfl 3 rfl) (by decide)).mono ?_
  rintro e' w1 ⟨⟨v1, rfl, hK1⟩, hb1⟩
  rw [srt_cba] at hK1
  have HB1 : Hid (Below w0.heap.size w0 w1) := Lib.hid (bOn ((Below.refl _ _).alloc (Nat.le_refl _) _) hb1)
  have HX1 := Lib.hid (HX0.out.below HB1.out)
  have HK1 := Lib.hid hK1
  clear hK1 hb1
  obtain ⟨a0, a1, a2, a3, a4, a5⟩ := HX1.out.all
  obtain ⟨b0, b1, b2, b3, b4, b5⟩ := (HX1.out.below ((Below.refl _ _).alloc (Nat.le_refl _) (.cells #[.int .u64 18446744073709551615, .int .i64 7, .int .u64 0, .int .i64 4] 26))).all
  go_wp2_with fail
  refine (put_any mA kB kin_B (lit_keys w1 [kA, kC] (by decide) kin_ac _ rfl 2 rfl) (by decide)).mono ?_
  rintro e' w2 ⟨⟨v2, rfl, hK2⟩, hb2⟩
  rw [put_b.2] at hK2
  rw [put_b.1]
  have hb2' := bOn ((Below.refl _ _).alloc (Nat.le_refl _) _) hb2
  have HB2 := Lib.hid (bOn HB1.out hb2')
  have HX2 := Lib.hid (HX0.out.below HB2.out)
  have HK12 := Lib.hid (HK1.out.below hb2')
  have HK2 := Lib.hid hK2
  clear hK2 hb2 hb2' a0 a1 a2 a3 a4 a5 b0 b1 b2 b3 b4 b5
  obtain ⟨a0, a1, a2, a3, a4, a5⟩ := HX2.out.all
  go_wp2_with fail
  refine (put_any mA kB kin_B HK12.out (by decide)).mono ?_
  rintro e' w3 ⟨⟨v3, rfl, -⟩, hb3⟩
  rw [put_again]
  have HB3 := Lib.hid (bOn HB2.out hb3)
  have HX3 := Lib.hid (HX0.out.below HB3.out)
  have HK13 := Lib.hid (HK12.out.below hb3)
  have HK23 := Lib.hid (HK2.out.below hb3)
  clear hb3 a0 a1 a2 a3 a4 a5
  go_wp2_with fail
  refine (drop_any mA 3 (by unfold I; omega) HK13.out (by decide)).mono ?_
  rintro e' w4 ⟨⟨v4, rfl, hK4⟩, hb4⟩
  rw [drop_3.2] at hK4
  rw [drop_3.1]
  have HB4 := Lib.hid (bOn HB3.out hb4)
  have HX4 := Lib.hid (HX0.out.below HB4.out)
  have HK14 := Lib.hid (HK13.out.below hb4)
  have HK24 := Lib.hid (HK23.out.below hb4)
  have HK4 := Lib.hid hK4
  clear hb4 hK4
  go_wp2_with fail
  refine (drop_any 0 3 (by unfold I; omega) HK14.out (by decide)).mono ?_
  rintro e' w5 ⟨⟨v5, rfl, -⟩, hb5⟩
  rw [drop_30]
  have HB5 := Lib.hid (bOn HB4.out hb5)
  have HX5 := Lib.hid (HX0.out.below HB5.out)
  have HK15 := Lib.hid (HK14.out.below hb5)
  have HK25 := Lib.hid (HK24.out.below hb5)
  have HK45 := Lib.hid (HK4.out.below hb5)
  clear hb5
  go_wp2_with fail
  refine (first_any 0 HK15.out (by decide)).mono ?_
  rintro e' w6 ⟨rfl, hb6⟩
  rw [first_a, show firstB [kA, kB, kC] = true from rfl, show kA.1 = 18446744073709551615 from rfl, show kA.2 = 7 from rfl]
  obtain ⟨w7, hw7⟩ : ∃ w7, w7 = w6.alloc (.cells #[.int .u64 18446744073709551615, .int .i64 7] 26) := ⟨_, rfl⟩
  have hb67 : Below w5.heap.size w5 w7 := hw7 ▸ bOn hb6 ((Below.refl _ _).alloc (Nat.le_refl _) _)
  have HB7 := Lib.hid (bOn HB5.out hb67)
  have HX7 := Lib.hid (HX0.out.below HB7.out)
  have HK17 := Lib.hid (HK15.out.below hb67)
  have HK27 := Lib.hid (HK25.out.below hb67)
  have HK47 := Lib.hid (HK45.out.below hb67)
  have HF7 : Hid (Kb w7 w6.heap.size kA) := Lib.hid (hw7 ▸ Kb.new w6 kA)
  have HW7 := Lib.hid hw7
  have HS7 : Hid (w6.heap.size + 1 = w7.heap.size) := Lib.hid (by rw [hw7]; simp)
  clear hb6 hb67
  obtain ⟨a0, a1, a2, a3, a4, a5⟩ := HX7.out.all
  rw [hw7] at a0 a1 a2 a3 a4 a5
  clear hw7
  go_wp2_with fail
  rw [← HW7.out, HS7.out]
  have HF7q := HF7
  generalize w6.heap.size = q at HF7q ⊢
  refine (same_any (HK17.out.below ((Below.refl _ _).alloc (Nat.le_refl _) _)) (lit_keys w7 [kA, kB, kC] (by decide) kin_abc _ rfl 3 rfl)).mono ?_
  rintro e' w8 ⟨rfl, hg8⟩
  rw [show decide ([kA, kB, kC] = [kA, kB, kC]) = true from decide_eq_true rfl]
  have hb78 : Below w7.heap.size w7 w8 := bOn ((Below.refl _ _).alloc (Nat.le_refl _) _) hg8.below
  have HB8 := Lib.hid (bOn HB7.out hb78)
  have HX8 := Lib.hid (HX7.out.below hb78)
  have HK18 := Lib.hid (HK17.out.below hb78)
  have HK28 := Lib.hid (HK27.out.below hb78)
  have HK48 := Lib.hid (HK47.out.below hb78)
  have HF8 := Lib.hid (HF7q.out.below hb78 HF7q.out.lt)
  clear hg8 hb78 a0 a1 a2 a3 a4 a5
  go_wp2_with fail
  refine (same_any HK28.out HK18.out).mono ?_
  rintro e' w9 ⟨rfl, hg9⟩
  rw [show decide ([kA, kB, kC] = [kA, kB, kC]) = true from decide_eq_true rfl]
  have HB9 := Lib.hid (bOn HB8.out hg9.below)
  have HX9 := Lib.hid (HX8.out.below hg9.below)
  have HK19 := Lib.hid (HK18.out.below hg9.below)
  have HK49 := Lib.hid (HK48.out.below hg9.below)
  have HF9 := Lib.hid (HF8.out.gr hg9)
  clear hg9
  obtain ⟨a0, a1, a2, a3, a4, a5⟩ := HX9.out.all
  go_wp2_with fail
  refine (same_any (HK49.out.below ((Below.refl _ _).alloc (Nat.le_refl _) _)) (lit_keys w9 [kA, kC] (by decide) kin_ac _ rfl 2 rfl)).mono ?_
  rintro e' w10 ⟨rfl, hg10⟩
  rw [show decide ([kA, kC] = [kA, kC]) = true from decide_eq_true rfl]
  have hb910 : Below w9.heap.size w9 w10 := bOn ((Below.refl _ _).alloc (Nat.le_refl _) _) hg10.below
  have HB10 := Lib.hid (bOn HB9.out hb910)
  have HX10 := Lib.hid (HX9.out.below hb910)
  have HK10 := Lib.hid (HK19.out.below hb910)
  have HF10 := Lib.hid (HF9.out.below hb910 HF9.out.lt)
  clear hg10 hb910 a0 a1 a2 a3 a4 a5
  obtain ⟨a0, a1, a2, a3, a4, a5⟩ := HX10.out.all
  have f0 : w10.cell? ⟨q, 0, none⟩ = some (.int .u64 18446744073709551615) := HF10.out.all.1
  have f1 : w10.cell? ⟨q, 1, none⟩ = some (.int .i64 7) := HF10.out.all.2.1
  go_wp2_with fail
  refine (sorted_any mA HK10.out (by decide)).mono ?_
  rintro e' w11 ⟨rfl, hb11⟩
  rw [show decide (okK mA [kA, kB, kC]) = true from decide_eq_true ok_abc]
  have HB11 := Lib.hid (bOn HB10.out hb11)
  have HX11 := Lib.hid (HX10.out.below hb11)
  clear hb11 a0 a1 a2 a3 a4 a5 f0 f1
  obtain ⟨a0, a1, a2, a3, a4, a5⟩ := HX11.out.all
  go_wp2_with fail
  refine (less_gr mA kA kB _).mono ?_
  rintro e' w12 ⟨rfl, hg12⟩
  rw [lt_AB]
  have HB12 := Lib.hid (bOn HB0.out (bOn HB11.out hg12.below))
  clear hg12
  go_wp2
  go_ret
  exact ⟨rfl, HB12.out⟩
end Go.Proofs.Ytdmkaclihopmkaa
