/-
  Contract of turnspitlaw11.Jobs: jobs by numbers.
-/
import Derived.Test.YthbabhmpkniliaaLkX
namespace Go.Proofs.Ythbabhmpkniliaa
open Go.RowKit Go.ChangeAt Go.ChangeShapes Go.WideShapes Go.Sort Go.Deep Lk

section
variable {P : Program} {w : World} {B : Nat} {bytes : Nat}
/-- The step of a region that draws, at an append of pairs onto a slice of the call's own. -/
theorem step_append_prs {ops : Array Oper} {o : Oper} {a : Act} {K : Act → World → Prop} {Q : Exit → Act → World → Prop} {E : Prop} (hgd : o.guard = none) (s x : Operand) (t : TypeId)
    (ho : o.op = .call { callee := .builtin .append, args := #[s, x], argTypes := #[t, t] }) (B : Nat) (e : TypeId) (ht : P.underlying t = some (.slice e)) (hi : (P.info? e).map (fun i => (i.zero, i.size, i.bytes)) = some (some (.agg #[.int .i64 0, .int .i64 0]), 2, bytes))
    (hb : bytes ≤ 1048576) (zs ys : List (Int × Int)) (h : OwnP w B e (a.eval s) zs) (hx : Prs w (a.eval x) ys) (hroom : zs.length + ys.length ≤ 1048576) (hB : B ≤ w.heap.size)
    (hK : ∀ v' w', OwnP w' B e v' (zs ++ ys) → Below B w w' → K (a.put o.dst v') w') : if Region.wanted o (yielded ops a.tmps) = true then Oper.wp P o a w K Q else E := by
  have hw : Region.wanted o (yielded ops a.tmps) = true := by simp [Region.wanted, hgd]
  rw [if_pos hw]
  obtain ⟨i, hi, hz, hs1, hs2⟩ := info_parts hi
  obtain ⟨v', w', hr, h2, h3⟩ := run_append_prs (ty := o.type) ht hi hz hs1 hs2 rfl h hx hroom hb hB
  have hbel : Below B w w' := (Below.refl B w).grown h3 hB h.lt
  unfold Oper.wp execOp
  simp only [ho, resolve, invoke, builtin, Sem.run_bind, Sem.run_pure, Result.andThen_ok, List.map_toArray, List.map_cons, List.map_nil, hr]
  exact hK v' w' h2 hbel
end

theorem Prs.drew {w : World} {v : Value} {l : List (Int × Int)} (h : Prs w v l) : Prs w.drew v l := h
theorem OwnP.drew {w : World} {B : Nat} {e : TypeId} {v : Value} {l : List (Int × Int)} (h : OwnP w B e v l) : OwnP w.drew B e v l := h

theorem OwnP.shape {w : World} {B : Nat} {e : TypeId} {v : Value} {l : List Pr} (h : OwnP w B e v l) : ∃ a cap, v = .slice a l.length cap := by
  obtain ⟨hl, hr⟩ := h
  rcases hr with ⟨rfl, h1⟩ | ⟨g, cap, cur, rfl, _⟩
  · exact ⟨none, 0, by rw [h1]⟩
  · exact ⟨_, _, rfl⟩
theorem OwnP.ps {w : World} {B : Nat} {e : TypeId} {v : Value} {l : List Pr} (h : OwnP w B e v l) (hw : ∀ x ∈ l, I x.1 ∧ I x.2) : Ps w v l := by
  obtain ⟨a, cap0, e1, h1, h2, h3⟩ := h.prs (fun x hx => ⟨i64_wf (hw x hx).1, i64_wf (hw x hx).2⟩)
  obtain ⟨hl, hr⟩ := h
  rcases hr with ⟨rfl, h0⟩ | ⟨g, cap, cur, rfl, _, hg, hn, hm, _, ht⟩
  · obtain rfl := List.eq_nil_of_length_eq_zero h0
    exact ⟨none, 0, rfl, ⟨Nat.le_refl _, Nat.zero_le _⟩, by simp, fun h => absurd rfl h⟩
  · simp only [Value.slice.injEq, true_and] at e1
    obtain ⟨rfl, rfl⟩ := e1
    exact ⟨_, _, rfl, ⟨hn, hm⟩, hw, h3⟩
theorem OwnP.mono {w : World} {B B' : Nat} {e : TypeId} {v : Value} {zs : List Pr} (h : OwnP w B e v zs) (hb : B' ≤ B) : OwnP w B' e v zs := by
  obtain ⟨hl, hr⟩ := h
  refine ⟨hl, hr.imp id ?_⟩
  rintro ⟨g, cap, cur, e1, h1, h2⟩
  exact ⟨g, cap, cur, e1, Nat.le_trans hb h1, h2⟩

/-- The block of jobs, each of the call's own, behind it. -/
structure Jo (w : World) (O : Nat) (js : List (List Pr)) (U : Nat → Value) : Prop where
  c : ∀ k, k < js.length → w.cell? ⟨O, k, none⟩ = some (U k) ∧ OwnP w (O + 1) 55 (U k) (js.getD k [])
  f : ∀ k, w.frozen? ⟨O, k, none⟩ = false
  lt : O < w.heap.size
theorem Jo.below {w w' : World} {O : Nat} {js : List (List Pr)} {U : Nat → Value} (h : Jo w O js U) (hb : Below w.heap.size w w') : Jo w' O js U :=
  ⟨fun k hk => ⟨(hb.cell (p := ⟨O, k, none⟩) h.lt).trans (h.c k hk).1, (h.c k hk).2.below hb⟩, fun k => (hb.frozen (p := ⟨O, k, none⟩) h.lt).trans (h.f k), Nat.lt_of_lt_of_le h.lt hb.size⟩
theorem Jo.put {w : World} {O : Nat} {js : List (List Pr)} {U : Nat → Value} (h : Jo w O js U) {k : Nat} (hk : k < js.length) (v : Value) (l : List Pr) (hv : OwnP w (O + 1) 55 v l) : Jo (w.setCell ⟨O, k, none⟩ v) O (js.set k l) (fun j => if j = k then v else U j) := by
  refine ⟨fun j hj => ?_, fun j => by rw [frozen_set]; exact h.f j, by simp [World.setCell]; exact h.lt⟩
  rw [List.length_set] at hj
  have hD : (js.set k l).getD j [] = if j = k then l else js.getD j [] := getD_set_ite _ _ _ _ _ hk
  rw [hD]
  by_cases e : j = k
  · subst e
    simp only [if_true]
    exact ⟨World.cell?_setCell_same' _ _ _ (by rw [(h.c j hk).1]; rfl), ownsRow_setCell_below hv (show O < O + 1 by omega) v⟩
  · simp only [if_neg e]
    exact ⟨(World.cell?_setCell_other _ _ _ _ (fun e2 => e (congrArg Addr.off e2).symm)).trans (h.c j hj).1, ownsRow_setCell_below (h.c j hj).2 (show O < O + 1 by omega) v⟩

theorem jobsK_len (zs : List Int) (k : Nat) : (jobsK zs k).length = manyF zs := by
  unfold jobsK
  generalize (zs.take k).drop 1 = l
  have : ∀ (l : List Int) (js : List (List Pr)), (l.foldl (jobF (manyF zs)) js).length = js.length := by
    intro l
    induction l with
    | nil => intro js; rfl
    | cons z t ih => intro js; rw [List.foldl_cons, ih]; unfold jobF; rw [List.length_set]
  rw [this, List.length_replicate]
theorem jobsK_snoc (zs : List Int) {k : Nat} (h1 : 1 ≤ k) (hk : k < zs.length) : jobsK zs (k + 1) = jobF (manyF zs) (jobsK zs k) (zs.getD k 0) := by
  unfold jobsK
  rw [List.take_succ_eq_append_getElem hk, List.drop_append_of_le_length (by rw [List.length_take]; omega), List.foldl_append]
  simp [List.getD, hk]
theorem manyF_le (zs : List Int) : 2 ≤ manyF zs ∧ manyF zs ≤ 5 := by
  unfold manyF
  split
  · omega
  · have h1 := Int.emod_nonneg (zs.getD 0 0) (b := 4) (by omega)
    have h2 := Int.emod_lt_of_pos (zs.getD 0 0) (b := 4) (by omega)
    omega
theorem jobF_all {p : Pr → Prop} {m : Nat} {js : List (List Pr)} {z : Int} (hz : p (secF z)) (h : ∀ j ∈ js, ∀ x ∈ j, p x) : ∀ j ∈ jobF m js z, ∀ x ∈ j, p x := by
  intro j hj x hx
  unfold jobF at hj
  rcases List.mem_or_eq_of_mem_set hj with h1 | rfl
  · exact h j h1 x hx
  · rcases List.mem_append.1 hx with h2 | h2
    · by_cases hk : (z / 36 % m).toNat < js.length
      · exact h _ (by simp only [List.getD, List.getElem?_eq_getElem hk, Option.getD_some]; exact List.getElem_mem hk) x h2
      · simp only [List.getD, List.getElem?_eq_none (show js.length ≤ (z / 36 % m).toNat by omega), Option.getD_none] at h2
        cases h2
    · simp at h2; rw [h2]; exact hz
theorem secF_in (z : Int) : (0 ≤ (secF z).1 ∧ (secF z).1 < 6) ∧ 0 ≤ (secF z).2 ∧ (secF z).2 < 6 := by unfold secF; simp only; omega
theorem jobsK_all (zs : List Int) (k : Nat) : ∀ j ∈ jobsK zs k, ∀ x ∈ j, (0 ≤ x.1 ∧ x.1 < 6) ∧ 0 ≤ x.2 ∧ x.2 < 6 := by
  unfold jobsK
  have : ∀ (l : List Int) (js : List (List Pr)), (∀ j ∈ js, ∀ x ∈ j, (0 ≤ x.1 ∧ x.1 < 6) ∧ 0 ≤ x.2 ∧ x.2 < 6) → ∀ j ∈ l.foldl (jobF (manyF zs)) js, ∀ x ∈ j, (0 ≤ x.1 ∧ x.1 < 6) ∧ 0 ≤ x.2 ∧ x.2 < 6 := by
    intro l
    induction l with
    | nil => intro js h; exact h
    | cons z t ih => intro js h; rw [List.foldl_cons]; exact ih _ (jobF_all (secF_in z) h)
  exact this _ _ (fun j hj x hx => by rw [List.eq_of_mem_replicate hj] at hx; cases hx)
theorem jobsK_each (zs : List Int) (k : Nat) : ∀ i, ((jobsK zs k).getD i []).length ≤ k := by
  induction k with
  | zero =>
    intro i
    have : jobsK zs 0 = List.replicate (manyF zs) [] := by simp [jobsK]
    rw [this]
    simp only [List.getD, List.getElem?_replicate]
    split <;> simp
  | succ k ih =>
    intro i
    by_cases h1 : 1 ≤ k
    · by_cases hk : k < zs.length
      · rw [jobsK_snoc zs h1 hk]
        unfold jobF
        by_cases hj : (zs.getD k 0 / 36 % (manyF zs : Int)).toNat < (jobsK zs k).length
        · rw [getD_set_ite _ _ _ _ _ hj]
          split
          · have := ih (zs.getD k 0 / 36 % (manyF zs : Int)).toNat
            rw [List.length_append]; simp only [List.length_cons, List.length_nil]; omega
          · have := ih i; omega
        · rw [List.set_eq_of_length_le (by omega)]
          have := ih i; omega
      · have : jobsK zs (k + 1) = jobsK zs k := by unfold jobsK; rw [List.take_of_length_le (by omega), List.take_of_length_le (by omega)]
        rw [this]
        have := ih i; omega
    · have h0 : k = 0 := by omega
      subst h0
      have : jobsK zs 1 = List.replicate (manyF zs) [] := by
        unfold jobsK
        have : (zs.take 1).drop 1 = [] := by cases zs <;> simp
        rw [this]; rfl
      rw [this]
      simp only [List.getD, List.getElem?_replicate]
      split <;> simp

/-- The loop's jobs, laid out. -/
theorem Jo.jbs {w : World} {O : Nat} {js : List (List Pr)} {U : Nat → Value} (h : Jo w O js U) (hm : js.length ≤ 1000) (hw : ∀ j ∈ js, ∀ x ∈ j, I x.1 ∧ I x.2) : Jbs w (.slice (some ⟨O, 0, none⟩) js.length js.length) js := by
  refine ⟨_, _, rfl, ⟨Nat.le_refl _, by unfold maxLen; omega⟩, fun _ => ⟨O, 0, rfl, fun i hi => ⟨U i, ?_, (h.c i hi).2.ps (hw _ (by simp [List.getD, hi]))⟩⟩⟩
  rw [Nat.zero_add]
  exact (h.c i hi).1

set_option maxHeartbeats 4000000 in
set_option maxRecDepth 100000 in
theorem jobs_any {W : World} {v : Value} {zs : List Int} (h : Ints .u16 W v zs) :
    Calls Try.prog 26 #[v] W fun e w' => (∃ v', e = .returned v' ∧ Jbs w' v' (jobsF zs)) ∧ Below W.heap.size W w' := by
  have HW := Lib.hid h.wf
  have hm := manyF_le zs
  obtain ⟨i0, hi, hz, hs1, hs2⟩ := info_parts jslice_info
  have hmk : ∀ w : World, (Instr.makeSlice 38 (.int .i64 (manyF zs : Nat)) (.int .i64 (manyF zs : Nat))).run Try.prog w = .ok (.slice (some ⟨w.heap.size, 0, none⟩) (manyF zs) (manyF zs)) (w.alloc (.cells (Array.replicate (manyF zs) (.slice none 0 0)) 41)) := fun w => by
    have := run_make w 38 41 i0 _ Try.underlying38 hi hz .i64 .i64 (manyF zs) (manyF zs) (by omega) (by omega) (by rw [hs2]; omega) (by omega)
    rw [hs1, Int.toNat_natCast, Nat.mul_one] at this
    have e : madeCells (Value.cells (.slice none 0 0)) (manyF zs) = Array.replicate (manyF zs) (.slice none 0 0) := by
      have h := toList_madeCells_one (.slice none 0 0) (manyF zs)
      exact Array.ext' (h.trans (by simp))
    rw [e] at this
    exact this
  have HJ0 : Hid (∀ w : World, Jo (w.alloc (.cells (Array.replicate (manyF zs) (.slice none 0 0)) 41)) w.heap.size (List.replicate (manyF zs) []) (fun _ => .slice none 0 0)) := Lib.hid (fun w => by
    have hh : (w.alloc (.cells (Array.replicate (manyF zs) (.slice none 0 0)) 41)).heap[w.heap.size]? = some (.cells (Array.replicate (manyF zs) (.slice none 0 0)) 41) := heap_alloc_new w _
    refine ⟨fun k hk => ⟨?_, ?_⟩, fun k => ?_, by simp⟩
    · rw [List.length_replicate] at hk
      simp only [World.cell?, hh]; simp [hk]
    · rw [List.length_replicate] at hk
      simp only [List.getD, List.getElem?_replicate, if_pos hk, Option.getD_some]
      exact OwnP.nil _ _ _
    · simp only [World.frozen?, hh]; simp)
  obtain ⟨m, hmm⟩ : ∃ m, manyF zs = m := ⟨_, rfl⟩
  have HMM := Lib.hid hmm
  rw [hmm] at hm hmk HJ0
  clear hi hz hs1 hs2 i0
  rcases h.parts with ⟨rfl, a, cap, rfl⟩ | ⟨hp, hmx, b, off, cap, rfl, hbl, hc⟩
  · have h2 : m = 2 := by rw [← hmm]; rfl
    subst h2
    have HE : Hid (jobsF [] = [[], []]) := Lib.hid rfl
    have hmk2 : ∀ w : World, (Instr.makeSlice 38 (.int .i64 2) (.int .i64 2)).run Try.prog w = .ok (.slice (some ⟨w.heap.size, 0, none⟩) 2 2) (w.alloc (.cells (Array.replicate 2 (.slice none 0 0)) 41)) := fun w => hmk w
    clear h hmm hmk
    go_enter Try.func26, Try.ntmps26
    go_wp2
    refine wp_loop_rounds 1 ?_
    rw [rounds_succ]
    go_wp2
    go_ret
    refine ⟨⟨_, rfl, ?_⟩, (Below.refl _ _).alloc (Nat.le_refl _) _⟩
    rw [HE.out]
    exact (HJ0.out W).jbs (by simp) (fun j hj x hx => by rw [List.eq_of_mem_replicate hj] at hx; cases hx)
  · have HC := Lib.hid hc
    have hl : zs.length ≤ 9223372036854775807 := by unfold maxLen at hmx; omega
    have c0 := hc 0 hp
    rw [Nat.add_zero] at c0
    obtain ⟨z0, hz0⟩ : ∃ z0, zs.getD 0 0 = z0 := ⟨_, rfl⟩
    rw [hz0] at c0
    have hw0 := u16_wf (HW.out z0 (by rw [← hz0]; simp [List.getD, hp]))
    obtain ⟨n0, rfl⟩ : ∃ n : Nat, z0 = n := ⟨z0.toNat, by omega⟩
    have hme : (2 : Int) + (n0 : Int) % 4 = (m : Int) := by
      rw [← hmm]; unfold manyF
      rw [if_neg (by intro e; rw [e] at hp; simp at hp), hz0]; omega
    have hd0 : decide ((zs.length : Int) > 0) = true := decide_eq_true (by omega)
    have hd00 : decide (0 < zs.length) = true := decide_eq_true hp
    have hp1 : 1 ≤ zs.length := hp
    clear hc h hmx hz0 hmm hp
    obtain ⟨hm2, hm5⟩ := hm
    go_enter Try.func26, Try.ntmps26
    go_wp2
    have HJ1 := Lib.hid (HJ0.out W)
    have HB1 : Hid (Below W.heap.size W (W.alloc (.cells (Array.replicate m (.slice none 0 0)) 41))) := Lib.hid ((Below.refl _ _).alloc (Nat.le_refl _) _)
    generalize W.alloc (.cells (Array.replicate m (.slice none 0 0)) 41) = w1 at HJ1 HB1 ⊢
    clear hmk HJ0
    go_loopw [5] (fun u wr => ∃ i : Nat, 1 ≤ i ∧ i ≤ 20 ∧ i ≤ zs.length ∧ u = .int .i64 i ∧ Hid ((∃ U, Jo wr W.heap.size (jobsK zs i) U) ∧ Below W.heap.size W wr)) (fun u _ => 20 - (intOf u).toNat)
    case atStart =>
      refine ⟨1, by omega, by omega, hp1, rfl, Lib.hid ⟨⟨fun _ => .slice none 0 0, ?_⟩, HB1.out⟩⟩
      have e : jobsK zs 1 = List.replicate m [] := by
        unfold jobsK
        have : (zs.take 1).drop 1 = [] := by cases zs <;> simp
        rw [this, HMM.out]; rfl
      rw [e]
      exact HJ1.out
    case round =>
      obtain ⟨i, hi1, hi20, hil, rfl, HR⟩ := hrel
      clear HJ1 HB1
      by_cases hlt : i < zs.length
      · by_cases h3 : i < 20
        · have hd3 : decide ((i : Int) < 20) = true := decide_eq_true (by omega)
          have hd4 : decide ((i : Int) < (zs.length : Int)) = true := decide_eq_true (by omega)
          have c := (HR.out.2.cell (p := ⟨b, off + i, none⟩) hbl).trans (HC.out i hlt)
          obtain ⟨z, hz⟩ : ∃ z, zs.getD i 0 = z := ⟨_, rfl⟩
          rw [hz] at c
          have hzw := u16_wf (HW.out z (by rw [← hz]; simp [List.getD, hlt]))
          obtain ⟨n, rfl⟩ : ∃ n : Nat, z = n := ⟨z.toNat, by omega⟩
          have HZ := Lib.hid hz
          clear hz
          obtain ⟨q, hq⟩ : ∃ q : Nat, (n : Int) / 36 % (m : Int) = q := ⟨n / 36 % m, by rw [Int.natCast_emod, Int.natCast_ediv]; rfl⟩
          have hqm : q < m := by
            have := Int.emod_lt_of_pos ((n : Int) / 36) (b := (m : Int)) (by omega)
            omega
          have HQ := Lib.hid hq
          obtain ⟨⟨U, hJ⟩, hB⟩ := HR.out
          have HLJ : Hid ((jobsK zs i).length = m) := Lib.hid (by rw [jobsK_len, HMM.out])
          obtain ⟨jc, jo⟩ := hJ.c q (by rw [HLJ.out]; exact hqm)
          obtain ⟨u, hu⟩ : ∃ u, U q = u := ⟨_, rfl⟩
          obtain ⟨jq, hjq⟩ : ∃ jq, (jobsK zs i).getD q [] = jq := ⟨_, rfl⟩
          rw [hu] at jc jo
          rw [hjq] at jo
          have HJQ := Lib.hid hjq
          have HLEN : Hid (jq.length ≤ 20) := Lib.hid (by rw [← hjq]; have := jobsK_each zs i q; omega)
          have HJW : Hid (∀ x ∈ jq, I x.1 ∧ I x.2) := Lib.hid (by
            rw [← hjq]
            intro x hx
            have := jobsK_all zs i _ (by simp only [List.getD, List.getElem?_eq_getElem (show q < (jobsK zs i).length by rw [HLJ.out]; exact hqm), Option.getD_some]; exact List.getElem_mem _) x hx
            unfold I; omega)
          have HJO := Lib.hid hJ
          have HBR := Lib.hid hB
          have HOP := Lib.hid jo
          have HPX : Hid (∀ X, Below wr.heap.size wr X → Prs X u jq) := Lib.hid (fun X hX => (HOP.out.below hX).prs (fun x hx => ⟨i64_wf (HJW.out x hx).1, i64_wf (HJW.out x hx).2⟩))
          have HCX : Hid (∀ X, Below wr.heap.size wr X → X.cell? ⟨b, off + i, none⟩ = some (.int .u16 n) ∧ X.cell? ⟨W.heap.size, q, none⟩ = some u ∧ X.frozen? ⟨W.heap.size, q, none⟩ = false) := Lib.hid (fun X hX => by
            have h1 := HJO.out.lt
            exact ⟨(hX.cell (p := ⟨b, off + i, none⟩) (by show b < wr.heap.size; omega)).trans c, (hX.cell (p := ⟨W.heap.size, q, none⟩) h1).trans jc, (hX.frozen (p := ⟨W.heap.size, q, none⟩) h1).trans (HJO.out.f q)⟩)
          have HBD : Hid (Below wr.heap.size wr wr.drew) := Lib.hid (Below.refl _ _).drew
          have HBA : Hid (∀ o, Below wr.heap.size wr (wr.alloc o).drew) := Lib.hid (fun o => ((Below.refl _ _).alloc (Nat.le_refl _) o).drew)
          have ca := (HCX.out _ (HBA.out (.cells #[Value.int .i64 ((IntKind.i64.wrap (n : Int)).tmod 6), Value.int .i64 ((IntKind.i64.wrap ((IntKind.i64.wrap (n : Int)).tdiv 6)).tmod 6)] 55))).2.1
          have HPW : Hid (I ((n : Int) % 6) ∧ I ((n : Int) / 6 % 6)) := Lib.hid (by unfold I; omega)
          have HVS : Hid (#[Value.int .i64 ((IntKind.i64.wrap (n : Int)).tmod 6), Value.int .i64 ((IntKind.i64.wrap ((IntKind.i64.wrap (n : Int)).tdiv 6)).tmod 6)] = (cellsP [((n : Int) % 6, (n : Int) / 6 % 6)]).toArray) := Lib.hid (by
            have e1 : IntKind.i64.wrap (n : Int) = n := by rw [IntKind.wrap_i64]; omega
            have e2 : (n : Int).tdiv 6 = (n : Int) / 6 := Int.tdiv_eq_ediv_of_nonneg (by omega)
            have e3 : IntKind.i64.wrap ((n : Int) / 6) = (n : Int) / 6 := by rw [IntKind.wrap_i64]; omega
            rw [e1, e2, e3, Int.tmod_eq_emod_of_nonneg (by omega), Int.tmod_eq_emod_of_nonneg (by omega)]
            rfl)
          have HPN : Hid (∀ w : World, Prs (w.alloc (.cells #[Value.int .i64 ((IntKind.i64.wrap (n : Int)).tmod 6), Value.int .i64 ((IntKind.i64.wrap ((IntKind.i64.wrap (n : Int)).tdiv 6)).tmod 6)] 55)) (.slice (some ⟨w.heap.size, 0, none⟩) 1 1) [((n : Int) % 6, (n : Int) / 6 % 6)]) := Lib.hid (fun w =>
            prs_new w _ [((n : Int) % 6, (n : Int) / 6 % 6)] (by unfold maxLen; simp) (by intro x hx; simp at hx; subst hx; exact ⟨i64_wf HPW.out.1, i64_wf HPW.out.2⟩) _ HVS.out _ rfl _ rfl _)
          clear hjq hu hJ hB jo HR
          go_wp2_with fail
          go_region_law (first
            | (refine step_append_prs rfl (.const (.slice none 0 0)) (.tmp 41) 41 rfl _ 55 Try.underlying41 pair_info (by decide) [] jq (OwnP.nil _ _ _) ?_ (by have := HLEN.out; simp only [List.length_nil]; omega) (Nat.le_refl _) ?_; (first | exact HPX.out _ HBD.out | exact HPX.out _ (HBA.out _)); intro v2 w2 hO2 hb2; replace hO2 := Lib.hid (OwnP.mono (B' := wr.heap.size) hO2 (by (first | exact HBD.out.size | exact (HBA.out _).size))); have hB2 : Hid (Below wr.heap.size wr w2) := Lib.hid (by (first | exact HBD.out.trans hb2 | exact (HBA.out _).trans (hb2.mono (HBA.out _).size))); replace hb2 := Lib.hid hb2; obtain ⟨y1, y2, y3⟩ := HCX.out w2 hB2.out)
            | (refine step_append_prs rfl (.tmp 42) (.tmp 57) 41 rfl wr.heap.size 55 Try.underlying41 pair_info (by decide) ([] ++ jq) [((n : Int) % 6, (n : Int) / 6 % 6)] ?_ ?_ (by have := HLEN.out; simp only [List.nil_append, List.length_cons, List.length_nil]; omega) ?_ ?_; (first | exact hO2.out | exact hO2.out.alloc _); (first | exact HPN.out _ | exact (HPN.out wr).below ⟨hb2.out.os, hb2.out.tape, hb2.out.output, hb2.out.size, hb2.out.block⟩); (first | exact hB2.out.size | (have := hB2.out.size; rw [heap_size_alloc]; omega)); intro v3 w3 hO3 hb3; have HO3 := Lib.hid hO3; have hB3 : Hid (Below wr.heap.size wr w3) := Lib.hid (by (first | exact hB2.out.trans hb3 | exact (hB2.out.alloc hB2.out.size _).trans hb3)); obtain ⟨z1, z2, z3⟩ := HCX.out w3 hB3.out; obtain ⟨a3, c3, hv3⟩ := OwnP.shape hO3; clear hO3 hb3; generalize (([] ++ jq) ++ [((n : Int) % 6, (n : Int) / 6 % 6)]).length = n3 at hv3; subst hv3))
          all_goals
            have HF : Hid (Jo (w3.setCell ⟨W.heap.size, q, none⟩ (.slice a3 n3 c3)) W.heap.size (jobsK zs (i + 1)) (fun j => if j = q then .slice a3 n3 c3 else U j)) := Lib.hid (by
              have hO := HO3.out
              rw [List.nil_append] at hO
              have h1 := (HJO.out.below hB3.out).put (k := q) (by rw [HLJ.out]; exact hqm) (.slice a3 n3 c3) _ (hO.mono (show W.heap.size + 1 ≤ wr.heap.size from HJO.out.lt))
              rw [jobsK_snoc zs hi1 hlt]
              unfold jobF
              rw [HZ.out, HMM.out, HQ.out, Int.toNat_natCast, HJQ.out]
              exact h1)
            have HFB : Hid (Below W.heap.size W (w3.setCell ⟨W.heap.size, q, none⟩ (.slice a3 n3 c3))) := Lib.hid ((bOn HBR.out hB3.out).setCell (p := ⟨W.heap.size, q, none⟩) (Nat.le_refl _) _)
            clear y1 y2 y3 z1 z2 z3 hO2 hb2 c jc ca hq
            go_wp2
            exact ⟨⟨i + 1, by omega, by omega, by omega, by go_num, Lib.hid ⟨⟨_, HF.out⟩, HFB.out⟩⟩, by simp [intOf]; omega⟩
        · obtain rfl : i = 20 := by omega
          have hd3 : decide (((20 : Nat) : Int) < 20) = false := by decide
          have hd4 : decide (((20 : Nat) : Int) < (zs.length : Int)) = true := decide_eq_true (by omega)
          have HE : Hid (jobsF zs = jobsK zs 20) := Lib.hid (by unfold jobsF; rw [Nat.min_eq_right (by omega)])
          go_wp2
          go_ret
          obtain ⟨⟨U, hJ⟩, hB⟩ := HR.out
          have hl : (jobsK zs 20).length = m := by rw [jobsK_len, HMM.out]
          have h1 := hJ.jbs (by rw [hl]; omega) (fun j hj x hx => by have := jobsK_all zs 20 j hj x hx; unfold I; omega)
          rw [hl] at h1
          exact ⟨⟨_, rfl, by rw [HE.out]; exact h1⟩, hB⟩
      · obtain rfl : i = zs.length := by omega
        have hd4 : decide ((zs.length : Int) < (zs.length : Int)) = false := decide_eq_false (by omega)
        have HE : Hid (jobsF zs = jobsK zs zs.length) := Lib.hid (by unfold jobsF; rw [Nat.min_eq_left (by omega)])
        go_wp2
        go_ret
        obtain ⟨⟨U, hJ⟩, hB⟩ := HR.out
        have hl : (jobsK zs zs.length).length = m := by rw [jobsK_len, HMM.out]
        have h1 := hJ.jbs (by rw [hl]; omega) (fun j hj x hx => by have := jobsK_all zs zs.length j hj x hx; unfold I; omega)
        rw [hl] at h1
        exact ⟨⟨_, rfl, by rw [HE.out]; exact h1⟩, hB⟩
end Go.Proofs.Ythbabhmpkniliaa
