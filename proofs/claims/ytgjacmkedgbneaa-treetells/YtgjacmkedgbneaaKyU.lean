/-
  Contracts of turnspitref08's put, Sort, Put and Drop: the document's own answers for keys.
-/
import Derived.Test.YtgjacmkedgbneaaKyT
import Derived.Deep.RegionLaw
namespace Go.Proofs.Ytgjacmkedgbneaa
open Go.RowKit Go.Sort Wd Tn Ky

theorem insK_later {m : Int} {k y : K} {a : List K} (h : a.any (fun x => ltK m k x) = true) : insK m k (a ++ [y]) = insK m k a ++ [y] := by
  induction a with
  | nil => cases h
  | cons x a ih =>
    show insK m k (x :: (a ++ [y])) = _
    unfold insK
    cases hx : ltK m k x with
    | true => rw [if_pos rfl, if_pos rfl]; rfl
    | false =>
      rw [if_neg (by decide), if_neg (by decide), ih (by simpa [hx] using h)]; rfl
theorem insK_here {m : Int} {k : K} {a : List K} (h : a.any (fun x => ltK m k x) = false) : insK m k a = a ++ [k] := by
  induction a with
  | nil => rfl
  | cons x a ih =>
    rw [List.any_cons, Bool.or_eq_false_iff] at h
    unfold insK
    rw [h.1, if_neg (by decide), ih h.2]; rfl
theorem insK_first {m : Int} {k y : K} {a : List K} (h : a.any (fun x => ltK m k x) = false) (hy : ltK m k y = true) : insK m k (a ++ [y]) = a ++ [k] ++ [y] := by
  induction a with
  | nil => show insK m k [y] = [k, y]; unfold insK; rw [hy, if_pos rfl]
  | cons x a ih =>
    rw [List.any_cons, Bool.or_eq_false_iff] at h
    show insK m k (x :: (a ++ [y])) = _
    unfold insK
    rw [h.1, if_neg (by decide), ih h.2]; rfl
/-- What stands so far. -/
def outK (m : Int) (k : K) (a : List K) : List K := if a.any (fun x => ltK m k x) = true then insK m k a else a
def anyK (m : Int) (k : K) (a : List K) : Bool := a.any (fun x => ltK m k x)
theorem outK_length (m : Int) (k : K) (a : List K) : (outK m k a).length ≤ a.length + 1 := by
  unfold outK; split
  · rw [insK_length]; exact Nat.le_refl _
  · exact Nat.le_succ _
theorem anyK_more (m : Int) (k y : K) (a : List K) : anyK m k (a ++ [y]) = (anyK m k a || ltK m k y) := by simp [anyK]
theorem outK_done {m : Int} {k y : K} {a : List K} (h : anyK m k a = true) : outK m k (a ++ [y]) = outK m k a ++ [y] := by
  unfold outK
  unfold anyK at h
  rw [if_pos h, if_pos (by simp [h]), insK_later h]
theorem outK_now {m : Int} {k y : K} {a : List K} (h : anyK m k a = false) (hy : ltK m k y = true) : outK m k (a ++ [y]) = outK m k a ++ [k] ++ [y] := by
  unfold outK
  unfold anyK at h
  rw [if_pos (by rw [List.any_append, h]; simp [hy]), if_neg (by rw [h]; decide), insK_first h hy]
theorem outK_not {m : Int} {k y : K} {a : List K} (h : anyK m k a = false) (hy : ltK m k y = false) : outK m k (a ++ [y]) = outK m k a ++ [y] := by
  unfold outK
  unfold anyK at h
  rw [if_neg (by rw [List.any_append, h]; simp [hy]), if_neg (by rw [h]; decide)]
theorem outK_end {m : Int} {k : K} {a : List K} : (anyK m k a = true → outK m k a = insK m k a) ∧ (anyK m k a = false → outK m k a ++ [k] = insK m k a) := by
  unfold outK anyK
  refine ⟨fun h => by rw [if_pos h], fun h => by rw [if_neg (by simp [h]), insK_here h]⟩
theorem outK_kin {m : Int} {k : K} {a : List K} (ha : ∀ x ∈ a, Kin x) (hk : Kin k) : ∀ x ∈ outK m k a, Kin x := by
  unfold outK; split
  · exact insK_in ha hk
  · exact ha
theorem take_snocK (l : List K) (k : Nat) (hk : k < l.length) : l.take (k + 1) = l.take k ++ [l.getD k (0, 0)] := by
  rw [List.take_add_one]; simp [List.getD, hk]

theorem one_new (w : World) (x : K) (hx : Kin x) : Keys (w.alloc (.cells #[.int .u64 x.1, .int .i64 x.2] 27)) (.slice (some ⟨w.heap.size, 0, none⟩) 1 1) [x] := One.keys (Kb.new w x) hx

set_option maxHeartbeats 800000 in
set_option maxRecDepth 100000 in
theorem rput_some (m : Int) {l : List K} {W : World} {b off cap : Nat} (k : K) (hkin : Kin k) (hl : l.length ≤ 1000) (hin : ∀ x ∈ l, Kin x) (hb : b < W.heap.size)
    (hc : ∀ i, i < l.length → W.cell? ⟨b, off + i * 2, none⟩ = some (.int .u64 (l.getD i (0, 0)).1) ∧ W.cell? ⟨b, off + i * 2 + 1, none⟩ = some (.int .i64 (l.getD i (0, 0)).2)) :
    Calls Try.prog 56 #[.int .u64 m, .slice (some ⟨b, off, none⟩) l.length cap, .agg #[.int .u64 k.1, .int .i64 k.2]] W fun e w' => (∃ v', e = .returned v' ∧ Keys w' v' (insK m k l)) ∧ Below W.heap.size W w' := by
  have mixed : Try.prog.follows .mixedOrders = true := by kernel_rfl
  have HC := Lib.hid hc
  have HIN := Lib.hid hin
  have HKIN := Lib.hid hkin
  have HS : Hid ((W.alloc (.cells #[.int .u64 k.1, .int .i64 k.2] 27)).heap.size = W.heap.size + 1) := Lib.hid (by simp)
  have HW1 : Hid (Below W.heap.size W (W.alloc (.cells #[.int .u64 k.1, .int .i64 k.2] 27))) := Lib.hid ((Below.refl _ _).alloc (Nat.le_refl _) _)
  clear hc hin hkin
  go_enter Try.func56, Try.ntmps56
  go_wp2
  go_loopw [7, 8, 9] (fun v d i wr => ∃ j : Nat, j ≤ l.length ∧ i = .int .i64 j ∧ ∃ dn : Bool, d = .bool dn ∧ Hid (dn = anyK m k (l.take j) ∧ OwnK wr (W.heap.size + 1) 27 v (outK m k (l.take j)) ∧ Kb wr W.heap.size k ∧ Below (W.heap.size + 1) (W.alloc (.cells #[.int .u64 k.1, .int .i64 k.2] 27)) wr)) (fun _ _ i _ => l.length - (intOf i).toNat)
  case atStart => exact ⟨0, by omega, rfl, false, rfl, Lib.hid ⟨rfl, OwnK.nil _ _ _, Kb.new W k, Below.refl _ _⟩⟩
  case round =>
    obtain ⟨j, hj, rfl, dn, rfl, HJ⟩ := hrel
    by_cases hlt : j < l.length
    · obtain ⟨x, hx⟩ : ∃ x, l.getD j (0, 0) = x := ⟨_, rfl⟩
      have c := HC.out j hlt
      rw [hx] at c
      have hbw : Below W.heap.size W wr := HW1.out.trans (HJ.out.2.2.2.mono (by omega))
      have r0 := (hbw.cell (p := ⟨b, off + j * 2, none⟩) hb).trans c.1
      have r1 := (hbw.cell (p := ⟨b, off + j * 2 + 1, none⟩) hb).trans c.2
      have HXK : Hid (Kin x) := Lib.hid (by rw [← hx]; exact HIN.out _ (by simp [List.getD, hlt]))
      have HT := Lib.hid (by rw [take_snocK l j hlt, hx] : l.take (j + 1) = l.take j ++ [x])
      have hln : (l.take j).length ≤ 1000 := by rw [List.length_take]; omega
      have HLN : Hid ((outK m k (l.take j)).length ≤ 1001) := Lib.hid (Nat.le_trans (outK_length m k _) (by omega))
      obtain ⟨g0, g1, -, -, -⟩ := HJ.out.2.2.1.all
      have f0 : ∀ n os, (grow (wr.drewN n) os).cell? ⟨b, off + j * 2, none⟩ = some (.int .u64 x.1) := fun n os => Gr.cell ⟨n, os, rfl⟩ r0
      have f1 : ∀ n os, (grow (wr.drewN n) os).cell? ⟨b, off + j * 2 + 1, none⟩ = some (.int .i64 x.2) := fun n os => Gr.cell ⟨n, os, rfl⟩ r1
      have f2 : ∀ n os, (grow (wr.drewN n) os).cell? ⟨W.heap.size, 0, none⟩ = some (.int .u64 k.1) := fun n os => Gr.cell ⟨n, os, rfl⟩ g0
      have f3 : ∀ n os, (grow (wr.drewN n) os).cell? ⟨W.heap.size, 1, none⟩ = some (.int .i64 k.2) := fun n os => Gr.cell ⟨n, os, rfl⟩ g1
      obtain ⟨q, hq⟩ : ∃ q, ltK m k x = q := ⟨_, rfl⟩
      have hcg : ∀ n os, Calls Try.prog 37 #[.int .u64 m, .agg #[.int .u64 k.1, .int .i64 k.2], .agg #[.int .u64 x.1, .int .i64 x.2]] (grow (wr.drewN n) os) fun e w' => e = .returned (.bool q) ∧ ∃ q' os', w' = grow ((grow (wr.drewN n) os).drewN q') os' := fun n os => by
        rw [← hq]; exact rless_gr m k x _
      have HQ := Lib.hid hq
      have HG : Hid (∀ w', Gr wr w' → OwnK w' (W.heap.size + 1) 27 u7 (outK m k (l.take j)) ∧ Kb w' W.heap.size k ∧ Below (W.heap.size + 1) (W.alloc (.cells #[.int .u64 k.1, .int .i64 k.2] 27)) w' ∧ Below W.heap.size W w') := Lib.hid (fun w' hg =>
        ⟨HJ.out.2.1.below hg.below, HJ.out.2.2.1.gr hg, HJ.out.2.2.2.trans (hg.below.mono (by have := HJ.out.2.2.2.size; have := HS.out; omega)), bOn hbw hg.below⟩)
      clear hx c hbw r0 r1 hln g0 g1 hq
      have HDN := Lib.hid HJ.out.1
      cases dn with
      | true =>
        go_wp2_with fail
        go_quiet_grown (first | (go_at_call 37; refine Calls.grown_of (hcg _ _)))
        have p0 := f0 nq osq
        have p1 := f1 nq osq
        have p2 := f2 nq osq
        have p3 := f3 nq osq
        have HW := Lib.hid (HG.out (grow (wr.drewN nq) osq) ⟨nq, osq, rfl⟩)
        clear f0 f1 f2 f3 hcg HG
        generalize grow (wr.drewN nq) osq = w1 at p0 p1 p2 p3 HW ⊢
        go_wp2_with (at_builtin; refine wpList_append_keys rfl (.tmp 33) (.tmp 38) 38 rfl (W.heap.size + 1) 27 Try.underlying38 info_key (by decide) (outK m k (l.take j)) [x] (HW.out.1.alloc _) (one_new w1 x HXK.out) (by have := HLN.out; simp; omega) (by have := HW.out.2.2.1.size; have := HS.out; simp; omega) ?_; intro v2 w2 hO2 hb2)
        have hB2 : Below (W.heap.size + 1) (W.alloc (.cells #[.int .u64 k.1, .int .i64 k.2] 27)) w2 := (HW.out.2.2.1.alloc (by have := HW.out.2.2.1.size; have := HS.out; omega) _).trans hb2
        refine ⟨⟨j + 1, by omega, by go_num, true, rfl, Lib.hid ⟨?_, ?_, (Kb.new W k).below hB2 (by omega), hB2⟩⟩, by simp [intOf]; omega⟩
        · rw [HT.out, anyK_more, ← HDN.out]; simp
        · rw [HT.out, outK_done HDN.out.symm]; exact hO2
      | false =>
        cases q with
        | false =>
          go_wp2_with fail
          go_quiet_grown (first | (go_at_call 37; refine Calls.grown_of (hcg _ _)))
          have p0 := f0 nq osq
          have p1 := f1 nq osq
          have p2 := f2 nq osq
          have p3 := f3 nq osq
          have HW := Lib.hid (HG.out (grow (wr.drewN nq) osq) ⟨nq, osq, rfl⟩)
          clear f0 f1 f2 f3 hcg HG
          generalize grow (wr.drewN nq) osq = w1 at p0 p1 p2 p3 HW ⊢
          go_wp2_with (at_builtin; refine wpList_append_keys rfl (.tmp 33) (.tmp 38) 38 rfl (W.heap.size + 1) 27 Try.underlying38 info_key (by decide) (outK m k (l.take j)) [x] (HW.out.1.alloc _) (one_new w1 x HXK.out) (by have := HLN.out; simp; omega) (by have := HW.out.2.2.1.size; have := HS.out; simp; omega) ?_; intro v2 w2 hO2 hb2)
          have hB2 : Below (W.heap.size + 1) (W.alloc (.cells #[.int .u64 k.1, .int .i64 k.2] 27)) w2 := (HW.out.2.2.1.alloc (by have := HW.out.2.2.1.size; have := HS.out; omega) _).trans hb2
          refine ⟨⟨j + 1, by omega, by go_num, false, rfl, Lib.hid ⟨?_, ?_, (Kb.new W k).below hB2 (by omega), hB2⟩⟩, by simp [intOf]; omega⟩
          · rw [HT.out, anyK_more, ← HDN.out]; rw [HQ.out]; rfl
          · rw [HT.out, outK_not HDN.out.symm HQ.out]; exact hO2
        | true =>
          go_wp2_with fail
          go_quiet_grown (first | (go_at_call 37; refine Calls.grown_of (hcg _ _)))
          have p0 := f0 nq osq
          have p1 := f1 nq osq
          have p2 := f2 nq osq
          have p3 := f3 nq osq
          have HW := Lib.hid (HG.out (grow (wr.drewN nq) osq) ⟨nq, osq, rfl⟩)
          clear f0 f1 f2 f3 hcg HG
          generalize grow (wr.drewN nq) osq = w1 at p0 p1 p2 p3 HW ⊢
          have q0 := (Gr.alloc w1 (.cells #[.int .u64 k.1, .int .i64 k.2] 27)).cell p0
          have q1 := (Gr.alloc w1 (.cells #[.int .u64 k.1, .int .i64 k.2] 27)).cell p1
          have HLT : Hid (b < W.heap.size + 1) := Lib.hid (by omega)
          have HQ0 := Lib.hid q0
          have HQ1 := Lib.hid q1
          clear q0 q1
          go_wp2_with (first
            | (at_builtin; refine wpList_append_keys rfl (.tmp 29) (.tmp 31) 38 rfl (W.heap.size + 1) 27 Try.underlying38 info_key (by decide) (outK m k (l.take j)) [k] (HW.out.1.alloc _) (one_new w1 k HKIN.out) (by have := HLN.out; simp; omega) (by have := HW.out.2.2.1.size; have := HS.out; simp; omega) ?_; intro v2 w2 hO2 hb2; have s0 := (hb2.cell (p := ⟨b, off + j * 2, none⟩) HLT.out).trans HQ0.out; have s1 := (hb2.cell (p := ⟨b, off + j * 2 + 1, none⟩) HLT.out).trans HQ1.out)
            | (at_builtin; refine wpList_append_keys rfl (.tmp 33) (.tmp 38) 38 rfl (W.heap.size + 1) 27 Try.underlying38 info_key (by decide) (outK m k (l.take j) ++ [k]) [x] (hO2.alloc _) (one_new w2 x HXK.out) (by have := HLN.out; simp; omega) (by have := hb2.size; have := HW.out.2.2.1.size; have := HS.out; simp at *; omega) ?_; intro v3 w3 hO3 hb3))
          have hB2 : Below (W.heap.size + 1) (W.alloc (.cells #[.int .u64 k.1, .int .i64 k.2] 27)) w2 := (HW.out.2.2.1.alloc (by have := HW.out.2.2.1.size; have := HS.out; omega) _).trans hb2
          have hB3 : Below (W.heap.size + 1) (W.alloc (.cells #[.int .u64 k.1, .int .i64 k.2] 27)) w3 := (hB2.alloc (by have := hB2.size; have := HS.out; omega) _).trans hb3
          refine ⟨⟨j + 1, by omega, by go_num, true, rfl, Lib.hid ⟨?_, ?_, (Kb.new W k).below hB3 (by omega), hB3⟩⟩, by simp [intOf]; omega⟩
          · rw [HT.out, anyK_more, HQ.out]; simp
          · rw [HT.out, outK_now HDN.out.symm HQ.out]; exact hO3
    · obtain rfl : j = l.length := by omega
      have HJ2 := Lib.hid (by have h := HJ.out; rw [List.take_length] at h; exact h)
      obtain ⟨g0, g1, -, -, -⟩ := HJ.out.2.2.1.all
      have HLN : Hid ((outK m k l).length ≤ 1001) := Lib.hid (Nat.le_trans (outK_length m k _) (by omega))
      have HDN := Lib.hid HJ2.out.1
      cases dn with
      | true =>
        have HE : Hid (outK m k l = insK m k l) := Lib.hid (outK_end.1 HDN.out.symm)
        go_wp2
        go_ret
        refine ⟨⟨_, rfl, ?_⟩, HW1.out.trans (HJ2.out.2.2.2.mono (by omega))⟩
        have hO := HJ2.out.2.1
        rw [HE.out] at hO
        exact hO.keys (insK_in HIN.out HKIN.out)
      | false =>
        have HE : Hid (outK m k l ++ [k] = insK m k l) := Lib.hid (outK_end.2 HDN.out.symm)
        go_wp2_with (at_builtin; refine wpList_append_keys rfl (.tmp 42) (.tmp 44) 38 rfl (W.heap.size + 1) 27 Try.underlying38 info_key (by decide) (outK m k l) [k] (HJ2.out.2.1.alloc _) (one_new wr k HKIN.out) (by have := HLN.out; simp; omega) (by have := HJ2.out.2.2.2.size; have := HS.out; simp; omega) ?_; intro v2 w2 hO2 hb2)
        go_ret
        have hB2 : Below (W.heap.size + 1) (W.alloc (.cells #[.int .u64 k.1, .int .i64 k.2] 27)) w2 := (HJ2.out.2.2.2.alloc (by have := HJ2.out.2.2.2.size; have := HS.out; omega) _).trans hb2
        rw [HE.out] at hO2
        exact ⟨⟨_, rfl, hO2.keys (insK_in HIN.out HKIN.out)⟩, HW1.out.trans (hB2.mono (by omega))⟩
end Go.Proofs.Ytgjacmkedgbneaa
