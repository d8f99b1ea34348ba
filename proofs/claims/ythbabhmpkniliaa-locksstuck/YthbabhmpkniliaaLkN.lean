/-
  Contract of locks.New.
-/
import Derived.Test.YthbabhmpkniliaaLkB
import Derived.Laws.MakeOwn
import Derived.Deep.CutRange
namespace Go.Proofs.Ythbabhmpkniliaa
open Go.RowKit Go.ChangeAt Go.ChangeShapes Go.WideShapes Lk

/-- The first j locks are nobody's. -/
def newJ (k j : Nat) : List Int := List.replicate j (-1) ++ List.replicate (k - j) 0
theorem newJ_len {k j : Nat} (h : j ≤ k) : (newJ k j).length = k := by simp [newJ]; omega
theorem newJ_set {k j : Nat} (h : j < k) : (newJ k j).set j (-1) = newJ k (j + 1) := by
  unfold newJ
  rw [List.set_append_right _ _ (by simp), List.length_replicate, Nat.sub_self, show k - j = k - (j + 1) + 1 by omega, List.replicate_succ, List.set_cons_zero, List.replicate_succ', List.append_assoc]
  rfl
theorem newJ_all (k : Nat) : newJ k k = List.replicate k (-1) := by simp [newJ]
theorem Own.setn {w : World} {B : Nat} {e : TypeId} {g cap n : Nat} {zs : List Int} (hn : zs.length = n) (h : Own .i64 w B e (.slice (some ⟨g, 0, none⟩) n cap) zs) (j : Nat) (z : Int) :
    Own .i64 (w.setCell ⟨g, j, none⟩ (.int .i64 z)) B e (.slice (some ⟨g, 0, none⟩) n cap) (zs.set j z) := by
  subst hn; exact h.set j z
theorem Own.cellAt {w : World} {B : Nat} {e : TypeId} {g cap n : Nat} {zs : List Int} (hn : zs.length = n) (h : Own .i64 w B e (.slice (some ⟨g, 0, none⟩) n cap) zs) {j : Nat} (hj : j < n) :
    w.cell? ⟨g, j, none⟩ = some (.int .i64 (zs.getD j 0)) := by
  subst hn
  rw [World.ownsRow.cellAt h j (by omega)]; simp [List.getD, hj]
theorem Own.frozenAt {w : World} {B : Nat} {e : TypeId} {g cap n : Nat} {zs : List Int} (hn : zs.length = n) (h : Own .i64 w B e (.slice (some ⟨g, 0, none⟩) n cap) zs) (j : Nat) : w.frozen? ⟨g, j, none⟩ = false := by
  subst hn; exact World.ownsRow.frozenAt h j

set_option maxHeartbeats 1000000 in
set_option maxRecDepth 100000 in
theorem new_any (n : Int) (W : World) : Calls Try.prog 15 #[.int .i64 n] W (Took W (newE n) (newL n)) := by
  by_cases hn : n < 0 ∨ 65 < n
  · have HE : newE n = 1 := by unfold newE; rw [if_pos hn]
    have HL : newL n = [] := by unfold newL; rw [if_neg (by rw [HE]; decide)]
    rw [HL, HE]
    have HS := Lib.hid (at_new W (.slice none 0 0) 24).1
    by_cases h0 : n < 0
    · have hd : decide (n < 0) = true := decide_eq_true h0
      clear hn HE HL h0
      go_enter Try.func15, Try.ntmps15
      go_wp2
      exact bodyPost_ret (v := .tuple #[.agg #[.slice none 0 0], .int .i64 1]) (by simp [results, Try.results15, go_sem, HS.out]) rfl (took_err 1 ((Below.refl _ _).alloc (Nat.le_refl _) _) _ rfl)
    · have hd : decide (n < 0) = false := decide_eq_false h0
      have hd2 : decide (n > 65) = true := decide_eq_true (by omega)
      clear hn HE HL
      go_enter Try.func15, Try.ntmps15
      go_wp2
      exact bodyPost_ret (v := .tuple #[.agg #[.slice none 0 0], .int .i64 1]) (by simp [results, Try.results15, go_sem, HS.out]) rfl (took_err 1 ((Below.refl _ _).alloc (Nat.le_refl _) _) _ rfl)
  · obtain ⟨k, rfl⟩ : ∃ k : Nat, n = k := ⟨n.toNat, by omega⟩
    have HE : newE (k : Int) = 0 := by unfold newE; rw [if_neg hn]
    have HL : newL (k : Int) = List.replicate k (-1) := by unfold newL; rw [if_pos HE]; simp
    rw [HL, HE]
    have hk : k ≤ 65 := by omega
    obtain ⟨i, hi, hz, hs1, hs2⟩ := info_parts ints_info
    have hmk : ∀ w : World, (Instr.makeSlice 22 (.int .i64 k) (.int .i64 k)).run Try.prog w = .ok (.slice (some ⟨w.heap.size, 0, none⟩) k k) (w.alloc (.cells (Array.replicate k (Value.int .i64 0)) 3)) := fun w => by
      have := run_make w 22 3 i _ Try.underlying22 hi hz .i64 .i64 k k (by omega) (by omega) (by rw [hs2]; omega) (by omega)
      rw [hs1, Int.toNat_natCast, Nat.mul_one] at this
      have e : madeCells (Value.cells (.int .i64 0)) k = (Array.replicate k (Value.int .i64 0)) := by
        have h := toList_madeCells_one (.int .i64 0) k
        exact Array.ext' (h.trans (by simp))
      rw [e] at this
      exact this
    have hk0 : (0 : Int) ≤ k := by omega
    have hk64 : ¬ (k : Int) > 65 := by omega
    have HO1 : Hid (Own .i64 ((W.alloc (.cells #[.slice none 0 0] 24)).alloc (.cells (Array.replicate k (Value.int .i64 0)) 3)) W.heap.size 3 (.slice (some ⟨W.heap.size + 1, 0, none⟩) k k) (newJ k 0)) := Lib.hid (by
      have := World.ownsRow_lit (base := W.heap.size) (e := 3) (size := 1) (W.alloc (.cells #[.slice none 0 0] 24)) (Array.replicate k (Value.int .i64 0)) k (by simp) (by unfold maxLen; omega) (by simp)
      unfold Own newJ
      simpa using this)
    have HC1 := Lib.hid ((Below.refl (W.heap.size + 1) _ |>.alloc (by simp) (.cells (Array.replicate k (Value.int .i64 0)) 3)) |> fun h => cell_kept (w := W.alloc (.cells #[.slice none 0 0] 24)) (p := ⟨W.heap.size, 0, none⟩) h (by show W.heap.size < W.heap.size + 1; omega) (at_new W (.slice none 0 0) 24).1 (at_new W (.slice none 0 0) 24).2)
    have HB1 := Lib.hid (((Below.refl W.heap.size W).alloc (Nat.le_refl _) (.cells #[.slice none 0 0] 24)).alloc (by simp) (.cells (Array.replicate k (Value.int .i64 0)) 3))
    clear hn hi hz hs1 hs2 i HE HL
    go_enter Try.func15, Try.ntmps15
    go_upto_region 4 with fail
    generalize (W.alloc (.cells #[.slice none 0 0] 24)).alloc (.cells (Array.replicate k (Value.int .i64 0)) 3) = w2 at HO1 HC1 HB1 ⊢
    clear hmk
    go_wp2
    go_loopw [17] (fun i wr => ∃ j : Nat, j ≤ k ∧ i = .int .i64 j ∧ Hid (Own .i64 wr W.heap.size 3 (.slice (some ⟨W.heap.size + 1, 0, none⟩) k k) (newJ k j) ∧ (wr.cell? ⟨W.heap.size, 0, none⟩ = some (.slice none 0 0) ∧ wr.frozen? ⟨W.heap.size, 0, none⟩ = false) ∧ Below W.heap.size W wr)) (fun i _ => k - (intOf i).toNat)
    case atStart => exact ⟨0, by omega, rfl, Lib.hid ⟨HO1.out, HC1.out, HB1.out⟩⟩
    case round =>
      obtain ⟨j, hj, rfl, HJ⟩ := hrel
      clear HO1 HC1 HB1
      by_cases hlt : j < k
      · have hc := Own.cellAt (newJ_len hj) HJ.out.1 hlt
        have hf := Own.frozenAt (newJ_len hj) HJ.out.1 j
        have HN := Lib.hid (Own.setn (newJ_len hj) HJ.out.1 j (-1))
        rw [newJ_set hlt] at HN
        have HC := Lib.hid (cell_kept (B := W.heap.size + 1) ((Below.refl _ wr).setCell (p := ⟨W.heap.size + 1, j, none⟩) (Nat.le_refl _) (.int .i64 (-1))) (by show W.heap.size < W.heap.size + 1; omega) HJ.out.2.1.1 HJ.out.2.1.2)
        have HB := Lib.hid (HJ.out.2.2.setCell (p := ⟨W.heap.size + 1, j, none⟩) (by show W.heap.size ≤ W.heap.size + 1; omega) (.int .i64 (-1)))
        go_wp2
        exact ⟨⟨j + 1, by omega, by go_num, Lib.hid ⟨HN.out, HC.out, HB.out⟩⟩, by simp [intOf]; omega⟩
      · obtain rfl : j = k := by omega
        obtain ⟨hc, hf⟩ := HJ.out.2.1
        have HS := Lib.hid (World.cell?_setCell_same' wr ⟨W.heap.size, 0, none⟩ (.slice (some ⟨W.heap.size + 1, 0, none⟩) j j) (by rw [hc]; rfl))
        go_wp2
        refine bodyPost_ret (v := .tuple #[.agg #[.slice (some ⟨W.heap.size + 1, 0, none⟩) j j], .int .i64 0]) (by simp [results, Try.results15, go_sem, HS.out]) rfl ⟨⟨_, rfl, ?_⟩, HJ.out.2.2.setCell (Nat.le_refl _) _⟩
        rw [← newJ_all]
        exact HJ.out.1.other (by simp [Value.ownBlock])
end Go.Proofs.Ythbabhmpkniliaa
