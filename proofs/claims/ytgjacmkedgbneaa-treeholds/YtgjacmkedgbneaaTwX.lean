/-
  Contract of the laws' Op; how flat a right tree is.
-/
import Derived.Test.YtgjacmkedgbneaaTwR
import Derived.Test.YtgjacmkedgbneaaTrQ
namespace Go.Proofs.Ytgjacmkedgbneaa
open Go.RowKit Go.Sort Ky Wd Tn Tr

/-- What is put in, or taken out, by a number. -/
def opB (n : Int) : Bool := decide (n % 4 ≠ 3)
def opK (m n many : Int) : K := (IntKind.u64.wrap (m + n / 256), n / 4 % many)

set_option maxHeartbeats 1000000 in
theorem Op_at (m n : Int) (h0 : 0 ≤ n) (h1 : n < 65536) (many : Int) (hm0 : 0 < many) (hm1 : many ≤ 64) (W : World) :
    Calls Try.prog 28 #[.int .u64 m, .int .u16 n, .int .i64 many] W fun e w' => e = .returned (.tuple #[.bool (opB n), .agg #[.int .u64 (opK m n many).1, .int .i64 (opK m n many).2]]) ∧ Below W.heap.size W w' := by
  have HKB := Lib.hid (Kb.new W (0, 0))
  have HB := Lib.hid ((Below.refl W.heap.size W).alloc (Nat.le_refl _) (.cells #[.int .u64 0, .int .i64 0] 27))
  obtain ⟨g0, g1, g2, g3, -⟩ := HKB.out.all
  go_enter Try.func28, Try.ntmps28
  go_upto_region 1 with fail
  generalize W.alloc (.cells #[.int .u64 0, .int .i64 0] 27) = w1 at g0 g1 g2 g3 HKB HB ⊢
  have hne : many ≠ 0 := by omega
  have hne2 : (many == 0) = false := by rw [beq_eq_false_iff_ne]; exact hne
  have HE : Hid (IntKind.u64.wrap (m + IntKind.u64.wrap (IntKind.u16.wrap (n.tdiv 256))) = (opK m n many).1) := Lib.hid (by
    have e1 : n.tdiv 256 = n / 256 := Int.tdiv_eq_ediv_of_nonneg h0
    have e2 : IntKind.u16.wrap (n / 256) = n / 256 := by rw [IntKind.wrap_u16]; omega
    have e3 : IntKind.u64.wrap (n / 256) = n / 256 := by rw [IntKind.wrap_u64]; omega
    rw [e1, e2, e3]
    rfl)
  have HV : Hid (n / 4 % many = (opK m n many).2) := Lib.hid rfl
  have HO : Hid (opB n = (n % 4 != 3)) := Lib.hid (by unfold opB; by_cases h : n % 4 = 3 <;> simp [h])
  go_region
  have HKS := Lib.hid (HKB.out.store (IntKind.u64.wrap (m + IntKind.u64.wrap (IntKind.u16.wrap (n.tdiv 256))), n / 4 % many)).all
  have HBS := Lib.hid ((HB.out.setCell (p := ⟨W.heap.size, 0, none⟩) (Nat.le_refl _) (.int .u64 (IntKind.u64.wrap (m + IntKind.u64.wrap (IntKind.u16.wrap (n.tdiv 256)))))).setCell (p := ⟨W.heap.size, 1, none⟩) (Nat.le_refl _) (.int .i64 (n / 4 % many))).drew
  have HEQ : Hid (Ending.returned (.tuple #[.bool (n % 4 != 3), .agg #[.int .u64 (IntKind.u64.wrap (m + IntKind.u64.wrap (IntKind.u16.wrap (n.tdiv 256)))), .int .i64 (n / 4 % many)]]) = Ending.returned (.tuple #[.bool (opB n), .agg #[.int .u64 (opK m n many).1, .int .i64 (opK m n many).2]])) := Lib.hid (by rw [HO.out, HE.out, HV.out])
  clear HE HO HV
  generalize IntKind.u64.wrap (m + IntKind.u64.wrap (IntKind.u16.wrap (n.tdiv 256))) = x at *
  go_wp2_with fail
  obtain ⟨s0, s1, -⟩ := HKS.out
  exact bodyPost_ret (v := .tuple #[.bool (n % 4 != 3), .agg #[.int .u64 x, .int .i64 (n / 4 % many)]]) (by simp [results, Try.results28, go_sem, s0, s1]) rfl ⟨HEQ.out, HBS.out⟩

/-! ### How flat -/
theorem Rb_high : (b : B) → ∀ n, Rb b n → b.high ≤ 2 * n + (if b.isRed then 1 else 0)
  | .L, n, h => by simp [B.high]
  | .N i true v k, n, h => by
    obtain ⟨h1, h2, h3, h4⟩ := h
    have e1 := Rb_high (k false) n h3
    have e2 := Rb_high (k true) n h4
    rw [h1] at e1
    rw [h2] at e2
    simp only [B.high, B.isRed, if_true, Bool.false_eq_true, if_false] at *
    omega
  | .N i false v k, n, h => by
    obtain ⟨m, rfl, h3, h4⟩ := h
    have e1 := Rb_high (k false) m h3
    have e2 := Rb_high (k true) m h4
    have f1 : (k false).high ≤ 2 * m + 1 := by cases h : (k false).isRed <;> rw [h] at e1 <;> simp at e1 <;> omega
    have f2 : (k true).high ≤ 2 * m + 1 := by cases h : (k true).isRed <;> rw [h] at e2 <;> simp at e2 <;> omega
    simp only [B.high, B.isRed, Bool.false_eq_true, if_false]
    omega
theorem Rb_many : (b : B) → ∀ n, Rb b n → 2 ^ n ≤ b.keys.length + 1
  | .L, n, h => by rw [show n = 0 from h]; simp [B.keys]
  | .N i true v k, n, h => by
    have e1 := Rb_many (k false) n h.2.2.1
    simp only [B.keys, List.length_append, List.length_cons]
    omega
  | .N i false v k, n, h => by
    obtain ⟨m, rfl, h3, h4⟩ := h
    have e1 := Rb_many (k false) m h3
    have e2 := Rb_many (k true) m h4
    simp only [B.keys, List.length_append, List.length_cons]
    rw [Nat.pow_succ]
    omega
theorem flat {m : Int} {b : B} (h : RightB m b) : 2 ^ (b.high / 2) ≤ b.keys.length + 1 := by
  obtain ⟨r1, -, r3⟩ := h
  obtain ⟨n, hn⟩ := (plain_iff b).1.1 r3
  have e1 := Rb_high b n hn
  rw [r1] at e1
  have e2 := Rb_many b n hn
  exact Nat.le_trans (Nat.pow_le_pow_right (by omega) (by simp at e1; omega)) e2
end Go.Proofs.Ytgjacmkedgbneaa
