/-
  Contracts of slices.Delete (one element) and slices.Insert (one element) at keys, on a row that the caller itself made: what the slice that comes back holds.
-/
import Derived.Test.YtdmkaclihopmkaaKyA
import Derived.Shelf.RegionOpenPlain
import Derived.Lib.Walk
import Derived.Lib.SliceRun
import Derived.Lib.JoinLaws
import Derived.Lib.AppendZeros
import Derived.Lib.AppendZerosOnto
import Derived.Lib.Overlaps
import Derived.Laws.Externs
import Derived.Laws.IdiomCopy
import Derived.Laws.NewBlocks
import Derived.Laws.OwnMore
import Derived.Deep.RegionLaw
namespace Go.Proofs.Ytdmkaclihopmkaa
open Go.RowKit Go.Sort Go.Lib Wd Tn Ky

theorem cellsK_take (l : List K) (i : Nat) : cellsK (l.take i) = (cellsK l).take (i * 2) := by
  induction l generalizing i with
  | nil => simp [cellsK]
  | cons x l ih =>
    match i with
    | 0 => simp [cellsK]
    | i + 1 =>
      have e : cellsK (x :: l) = .int .u64 x.1 :: .int .i64 x.2 :: cellsK l := rfl
      have e2 : cellsK (x :: l.take i) = .int .u64 x.1 :: .int .i64 x.2 :: cellsK (l.take i) := rfl
      rw [List.take_succ_cons, e, e2, ih, show (i + 1) * 2 = i * 2 + 1 + 1 by omega, List.take_succ_cons, List.take_succ_cons]
theorem cellsK_drop (l : List K) (i : Nat) : cellsK (l.drop i) = (cellsK l).drop (i * 2) := by
  induction l generalizing i with
  | nil => simp [cellsK]
  | cons x l ih =>
    match i with
    | 0 => simp
    | i + 1 =>
      have e : cellsK (x :: l) = .int .u64 x.1 :: .int .i64 x.2 :: cellsK l := rfl
      rw [List.drop_succ_cons, e, ih, show (i + 1) * 2 = i * 2 + 1 + 1 by omega, List.drop_succ_cons, List.drop_succ_cons]

/-- A slice whose cells, one behind the other, are those of l. -/
theorem keys_flat {w : World} {b off cap : Nat} {l : List K} {n : Nat} (hn : n = l.length) (hm : l.length ≤ cap ∧ cap ≤ maxLen) (hk : ∀ x ∈ l, Kin x) (h : ∀ j u, (cellsK l)[j]? = some u → w.cell? ⟨b, off + j, none⟩ = some u) : Keys w (.slice (some ⟨b, off, none⟩) n cap) l := by
  subst hn
  refine ⟨_, _, rfl, hm, hk, fun _ => ⟨b, off, rfl, fun i hi => ?_⟩⟩
  have := cellsK_at l i hi
  exact ⟨h _ _ this.1, by rw [Nat.add_assoc]; exact h _ _ this.2⟩
theorem below_cells {B b : Nat} {a : World} (hb : B ≤ b) : ∀ (vs : List Value) (o : Nat) (w : World), Below B a w → Below B a (w.setCells b o vs)
  | [], _, _, h => h
  | v :: r, o, _, h => below_cells hb r (o + 1) _ (h.setCell (p := ⟨b, o, none⟩) hb v)

theorem info_key : (Try.prog.info? 26).map (fun i => (i.zero, i.size, i.bytes)) = some (some (.agg #[.int .u64 0, .int .i64 0]), 2, 16) := by kernel_rfl
theorem zero_key (w : World) : (zeroValue 26).run Try.prog w = .ok (.agg #[.int .u64 0, .int .i64 0]) w := by kernel_rfl

/-- The row of an owned slice that has elements. -/
theorem OwnK.row {w : World} {B : Nat} {e : TypeId} {v : Value} {l : List K} (h : OwnK w B e v l) (hp : 0 < l.length) :
    ∃ g cap cur, v = .slice (some ⟨g, 0, none⟩) l.length cap ∧ B ≤ g ∧ g < w.heap.size ∧ w.heap[g]? = some (.cells cur e (0, 0)) ∧ l.length ≤ cap ∧ cap ≤ maxLen ∧ cur.size = cap * 2 ∧
      (∀ j u, (cellsK l)[j]? = some u → w.cell? ⟨g, j, none⟩ = some u) ∧ (∀ j, j < cap * 2 → (w.cell? ⟨g, j, none⟩).isSome = true) ∧ (∀ j, w.frozen? ⟨g, j, none⟩ = false) := by
  have h0 := h
  obtain ⟨hl, hr⟩ := h
  rcases hr with ⟨rfl, h1⟩ | ⟨g, cap, cur, rfl, hB, hg, hn, hm, hs, ht⟩
  · omega
  · refine ⟨g, cap, cur, rfl, hB, (Array.getElem?_eq_some_iff.1 hg).1, hg, hn, hm, hs, fun j u hu => ?_, fun j hj => ?_, fun j => World.ownsRow.frozenAt h0 j⟩
    · have := World.ownsRow.cells h0 (g := g) rfl j u hu
      rwa [Go.WideShapes.add_plain, Nat.zero_add] at this
    · have : w.cell? ⟨g, j, none⟩ = cur[j]? := by simp [World.cell?, hg]
      rw [this, Array.getElem?_eq_getElem (by omega)]; rfl

/-- clear(s), s a slice of one key. -/
theorem run_clear_key (w : World) (ty : TypeId) (b o c : Nat) (hc : ∀ j, j < 2 → (w.cell? ⟨b, o + j, none⟩).isSome = true) (hf : ∀ j, j < 2 → w.frozen? ⟨b, o + j, none⟩ = false) :
    (Builtin.clear_ #[23] ty #[.slice (some ⟨b, o, none⟩) 1 c]).run Try.prog w = .ok (.tuple #[]) (w.setCells b o [.int .u64 0, .int .i64 0]) := by
  have hst := run_storeCells_cells (P := Try.prog) b o [.int .u64 0, .int .i64 0] 0 w (by simpa using hc) (by simpa using hf) (by intro v hv; simp at hv; rcases hv with rfl | rfl <;> rfl)
  simp only [Nat.add_zero] at hst
  have hz : (Builtin.zeroCells (Value.agg #[.int .u64 0, .int .i64 0]).cells 1).toList = [.int .u64 0, .int .i64 0] := by kernel_rfl
  simp [Builtin.clear_, run_underlying Try.underlying23, hz, hst]

set_option maxHeartbeats 4000000 in
set_option maxRecDepth 1000000 in
theorem delete_any {w : World} {B : Nat} {v : Value} {l : List K} (hO : OwnK w B 26 v l) (hk : ∀ x ∈ l, Kin x) (i : Nat) (hi : i < l.length) :
    Calls Try.prog 35 #[v, .int .i64 i, .int .i64 ((i : Int) + 1)] w fun e w' => (∃ v', e = .returned v' ∧ Keys w' v' (l.take i ++ l.drop (i + 1))) ∧ Below B w w' := by
  obtain ⟨g, cap, cur, rfl, hB, hgs, -, hnc, hcm, -, hcs, hsp, hfz⟩ := hO.row (by omega)
  obtain ⟨i0, hi0, hz0, hz1, hz2⟩ := info_parts info_key
  unfold maxLen at hcm
  have hlc := cellsK_length l
  -- what moves to the left
  obtain ⟨news, hnews⟩ : ∃ news, news = (cellsK l).drop ((i + 1) * 2) := ⟨_, rfl⟩
  have hlen : news.length = (l.length - (i + 1)) * 2 := by rw [hnews, List.length_drop, hlc]; omega
  obtain ⟨A, hA, hsrc⟩ : ∃ A : Addr, (if cap = i + 1 then some (⟨g, 0, none⟩ : Addr) else some ⟨g, (i + 1) * 2, none⟩) = some A ∧ Hid (∀ t u, news[t]? = some u → w.drew.cell? (A.add t) = some u) := by
    by_cases h : cap = i + 1
    · refine ⟨⟨g, 0, none⟩, by simp [h], fun t u hu => ?_⟩
      have h0 : news.length = 0 := by rw [hlen]; omega
      rw [List.length_eq_zero_iff.1 h0] at hu
      simp at hu
    · refine ⟨⟨g, (i + 1) * 2, none⟩, by simp [h], fun t u hu => ?_⟩
      rw [Addr.add_lit]
      refine hcs _ u ?_
      rw [hnews, List.getElem?_drop] at hu
      exact hu
  have s1 : Hid (news.length = (l.length - (i + 1)) * 2) := hlen
  have s2 : Hid (∀ u ∈ news, u.oneCell' = true) := fun u hu => by rw [hnews] at hu; exact cellsK_one l u (List.mem_of_mem_drop hu)
  have s3 : Hid (∀ t, t < news.length → (w.drew.cell? ⟨g, 0 + i * 2 + t, none⟩).isSome = true ∧ w.drew.frozen? ⟨g, 0 + i * 2 + t, none⟩ = false) := fun t ht => ⟨hsp _ (by omega), hfz _⟩
  obtain ⟨W1, hW1⟩ : ∃ W1, W1 = w.drew.setCells g (0 + i * 2) news := ⟨_, rfl⟩
  have hsp1 : ∀ j, j < cap * 2 → (W1.cell? ⟨g, j, none⟩).isSome = true := fun j hj => by
    rw [hW1]
    by_cases hin : 0 + i * 2 ≤ j ∧ j < 0 + i * 2 + news.length
    · have := World.cell?_setCells_in g news (0 + i * 2) w.drew (fun t ht => (s3.out t ht).1) (j - (0 + i * 2)) (by omega)
      rw [show 0 + i * 2 + (j - (0 + i * 2)) = j by omega] at this
      rw [this]; rfl
    · rw [World.cell?_setCells_out g news (0 + i * 2) w.drew ⟨g, j, none⟩ (fun _ _ => by show j < 0 + i * 2 ∨ 0 + i * 2 + news.length ≤ j; omega)]
      exact hsp j hj
  have hcl : ∀ ty c, (Builtin.clear_ #[23] ty #[.slice (some ⟨g, (l.length - 1) * 2, none⟩) 1 c]).run Try.prog W1 = .ok (.tuple #[]) (W1.setCells g ((l.length - 1) * 2) [.int .u64 0, .int .i64 0]) := fun ty c =>
    run_clear_key W1 ty g _ c (fun j hj => hsp1 _ (by omega)) (fun j hj => by rw [hW1, World.frozen?_setCells]; exact hfz _)
  have HR : Hid (Keys (W1.setCells g ((l.length - 1) * 2) [.int .u64 0, .int .i64 0]) (.slice (some ⟨g, 0, none⟩) (l.length - 1) cap) (l.take i ++ l.drop (i + 1)) ∧ Below B w (W1.setCells g ((l.length - 1) * 2) [.int .u64 0, .int .i64 0])) := by
    refine Lib.hid ⟨keys_flat (by simp; omega) ⟨by simp; omega, by unfold maxLen; omega⟩ (fun x hx => ?_) (fun j u hu => ?_), below_cells hB _ _ _ (hW1 ▸ below_cells hB _ _ _ (Below.refl B w).drew)⟩
    · rcases List.mem_append.1 hx with h | h
      · exact hk x (List.mem_of_mem_take h)
      · exact hk x (List.mem_of_mem_drop h)
    · have hj : j < (l.length - 1) * 2 := by
        have := (List.getElem?_eq_some_iff.1 hu).1
        rw [cellsK_length] at this
        simp at this
        omega
      rw [cellsK_append, cellsK_take, cellsK_drop, ← hnews] at hu
      rw [Nat.zero_add, World.cell?_setCells_out g _ _ W1 ⟨g, j, none⟩ (fun _ _ => Or.inl hj), hW1]
      have hlt : ((cellsK l).take (i * 2)).length = i * 2 := by rw [List.length_take, hlc]; omega
      by_cases hji : j < i * 2
      · rw [World.cell?_setCells_out g _ _ w.drew ⟨g, j, none⟩ (fun _ _ => Or.inl (by show j < 0 + i * 2; omega))]
        rw [List.getElem?_append_left (by omega), List.getElem?_take_of_lt hji] at hu
        exact hcs j u hu
      · rw [List.getElem?_append_right (by omega), hlt] at hu
        have hjl := (List.getElem?_eq_some_iff.1 hu).1
        have := World.cell?_setCells_in g news (0 + i * 2) w.drew (fun t ht => (s3.out t ht).1) (j - i * 2) hjl
        rw [show 0 + i * 2 + (j - i * 2) = j by omega] at this
        rw [this, ← hu, List.getElem?_eq_getElem hjl]
  have hW : Hid (W1 = w.drew.setCells g (0 + i * 2) news) := hW1
  have hic : i ≤ cap := by omega
  have hjc : i + 1 ≤ cap := by omega
  have hb1 : (0 : Int) ≤ (i : Int) + 1 := by omega
  have hb2 : (i : Int) + 1 ≤ (l.length : Int) := by omega
  have hll : i + (l.length - (i + 1)) = l.length - 1 := by omega
  have hl1 : l.length - (l.length - 1) = 1 := by omega
  have hcn : ¬ (cap = l.length - 1) := by omega
  clear hW1 hsp1 hcs hsp hfz hnews hlen hk hO
  go_enter Try.func35, Try.ntmps35
  go_wp2_with fail
  go_region_law (refine step_append_room rfl (.tmp 22) (.tmp 25) 23 rfl 26 i0 2 Try.underlying23 hi0 hz1 g 0 i cap (by simp [Act.eval, Act.put]) A (l.length - (i + 1)) (cap - (i + 1)) news (by simp [Act.eval, Act.put]) s1.out hsrc.out s2.out (by omega) s3.out ?_; rw [← hW.out])
  go_wp2
  go_ret
  exact ⟨⟨_, rfl, HR.out.1⟩, HR.out.2⟩

/-! ### Insert -/
/-- copy(d, s), of slices of keys: all is read ahead of what is written. -/
theorem run_copy_keys (w : World) (ty : TypeId) (b o dLen dCap : Nat) (a : Addr) (sLen sCap : Nat) (cs : List Value) (hn : cs.length = Nat.min sLen dLen * 2)
    (hsrc : ∀ j v, cs[j]? = some v → w.cell? (a.add j) = some v) (hc : ∀ j, j < cs.length → (w.cell? ⟨b, o + j, none⟩).isSome = true) (hf : ∀ j, j < cs.length → w.frozen? ⟨b, o + j, none⟩ = false) (h1 : ∀ v ∈ cs, v.oneCell' = true) :
    ∃ r, (Builtin.copy_ #[23, 23] ty #[.slice (some ⟨b, o, none⟩) dLen dCap, .slice (some a) sLen sCap]).run Try.prog w = .ok r (w.setCells b o cs) := by
  obtain ⟨i0, hi0, -, hz1, -⟩ := info_parts info_key
  have hl := run_loadCells_list (P := Try.prog) w a cs hsrc
  have hst := run_storeCells_cells (P := Try.prog) b o cs 0 w (by simpa using hc) (by simpa using hf) h1
  rw [hn] at hl
  simp [Builtin.copy_, run_underlying Try.underlying23, Builtin.lenOf, Builtin.firstCells, sizeOf, typeInfo, hi0, hz1, hl, hst]
theorem wp_copy_at {P : Program} (w : World) {o : Oper} {a : Act} {Kk : Act → World → Prop} {Q : Exit → Act → World → Prop} (d s : Operand) (t t' : TypeId)
    (ho : o.op = .call { callee := .builtin .copy, args := #[d, s], argTypes := #[t, t'] }) (v u : Value) (hd : a.eval d = v) (hs : a.eval s = u) {w' : World}
    (hr : ∃ r, (Builtin.copy_ #[t, t'] o.type #[v, u]).run P w = .ok r w') (h : ∀ r, Kk (a.put o.dst r) w') : o.wp P a w Kk Q := by
  obtain ⟨r, hr⟩ := hr
  unfold Oper.wp execOp
  simp only [ho, resolve, invoke, builtin, Sem.run_bind, Sem.run_pure, Result.andThen_ok, List.map_toArray, List.map_cons, List.map_nil, hd, hs, hr]
  exact h r
theorem wpList_copy_at {P : Program} (w : World) {ops : Array Oper} {rest : List Oper} {o : Oper} {a : Act} {Q : Exit → Act → World → Prop} (hgd : o.guard = none) (d s : Operand) (t t' : TypeId)
    (ho : o.op = .call { callee := .builtin .copy, args := #[d, s], argTypes := #[t, t'] }) (v u : Value) (hd : a.eval d = v) (hs : a.eval s = u) {w' : World}
    (hr : ∃ r, (Builtin.copy_ #[t, t'] o.type #[v, u]).run P w = .ok r w') (h : ∀ r, wpList P ops Q rest (a.put o.dst r) w') : wpList P ops Q (o :: rest) a w :=
  wpList_plain hgd fun _ hK => wp_copy_at w d s t t' ho v u hd hs hr fun r => hK _ _ (h r)
theorem step_copy_at {P : Program} {ops : Array Oper} {o : Oper} {a : Act} {w : World} {Kk : Act → World → Prop} {Q : Exit → Act → World → Prop} {E : Prop} (hg : o.guard = none) (d s : Operand) (t t' : TypeId)
    (ho : o.op = .call { callee := .builtin .copy, args := #[d, s], argTypes := #[t, t'] }) (v u : Value) (hd : a.eval d = v) (hs : a.eval s = u) {w' : World}
    (hr : ∃ r, (Builtin.copy_ #[t, t'] o.type #[v, u]).run P w = .ok r w') (h : ∀ r, Kk (a.put o.dst r) w') :
    if Region.wanted o (yielded ops a.tmps) = true then Oper.wp P o a w Kk Q else E := by
  have hw : Region.wanted o (yielded ops a.tmps) = true := by simp [Region.wanted, hg]
  rw [if_pos hw]
  exact wp_copy_at w d s t t' ho v u hd hs hr h

/-- The cells of a row, with one key put in at i, out of the cells around it. -/
theorem cells_put {w : World} {b : Nat} {l : List K} {k : K} {i : Nat} (hi : i ≤ l.length) (h0 : ∀ j u, j < i * 2 → (cellsK l)[j]? = some u → w.cell? ⟨b, j, none⟩ = some u) (h1 : w.cell? ⟨b, i * 2, none⟩ = some (.int .u64 k.1)) (h2 : w.cell? ⟨b, i * 2 + 1, none⟩ = some (.int .i64 k.2))
    (h3 : ∀ j u, (cellsK l)[i * 2 + j]? = some u → w.cell? ⟨b, (i + 1) * 2 + j, none⟩ = some u) : ∀ j u, (cellsK (l.take i ++ k :: l.drop i))[j]? = some u → w.cell? ⟨b, 0 + j, none⟩ = some u := by
  intro j u hu
  have hlt : ((cellsK l).take (i * 2)).length = i * 2 := by rw [List.length_take, cellsK_length]; omega
  rw [cellsK_append, cellsK_take, show cellsK (k :: l.drop i) = .int .u64 k.1 :: .int .i64 k.2 :: cellsK (l.drop i) from rfl, cellsK_drop] at hu
  rw [Nat.zero_add]
  by_cases hj : j < i * 2
  · rw [List.getElem?_append_left (by omega), List.getElem?_take_of_lt hj] at hu
    exact h0 j u hj hu
  · rw [List.getElem?_append_right (by omega), hlt] at hu
    rcases (show j = i * 2 ∨ j = i * 2 + 1 ∨ (i + 1) * 2 ≤ j by omega) with rfl | rfl | h
    · simp at hu; subst hu; exact h1
    · rw [show i * 2 + 1 - i * 2 = 1 by omega] at hu
      simp at hu; subst hu; exact h2
    · rw [show j - i * 2 = (j - (i + 1) * 2) + 1 + 1 by omega, List.getElem?_cons_succ, List.getElem?_cons_succ, List.getElem?_drop] at hu
      have := h3 _ u hu
      rwa [show (i + 1) * 2 + (j - (i + 1) * 2) = j by omega] at this
theorem put_kin {l : List K} {k : K} {i : Nat} (hk : ∀ x ∈ l, Kin x) (hkk : Kin k) : ∀ x ∈ l.take i ++ k :: l.drop i, Kin x := fun x hx => by
  rcases List.mem_append.1 hx with h | h
  · exact hk x (List.mem_of_mem_take h)
  · rcases List.mem_cons.1 h with rfl | h
    · exact hkk
    · exact hk x (List.mem_of_mem_drop h)
/-- The block of one key. -/
def One (w : World) (vb : Nat) (k : K) : Prop := w.heap[vb]? = some (.cells #[.int .u64 k.1, .int .i64 k.2] 26 (0, 0))
theorem One.cells {w : World} {vb : Nat} {k : K} (h : One w vb k) : w.cell? ⟨vb, 0, none⟩ = some (.int .u64 k.1) ∧ w.cell? ⟨vb, 1, none⟩ = some (.int .i64 k.2) ∧ vb < w.heap.size :=
  ⟨by simp [World.cell?, show w.heap[vb]? = _ from h], by simp [World.cell?, show w.heap[vb]? = _ from h], (Array.getElem?_eq_some_iff.1 h).1⟩
theorem One.at {w : World} {vb : Nat} {k : K} (h : One w vb k) : ∀ j u, [Value.int .u64 k.1, .int .i64 k.2][j]? = some u → w.cell? ⟨vb, 0 + j, none⟩ = some u := fun j u hu => by
  match j with
  | 0 => simp at hu; subst hu; exact h.cells.1
  | 1 => simp at hu; subst hu; exact h.cells.2.1
  | j + 2 => simp at hu
theorem One.keys {w : World} {vb : Nat} {k : K} (h : One w vb k) (hk : Kin k) : Keys w (.slice (some ⟨vb, 0, none⟩) 1 1) [k] :=
  keys_flat rfl ⟨by simp, by unfold maxLen; omega⟩ (by simpa using hk) (fun j u hu => h.at j u hu)
theorem one_cells (k : K) : ∀ v ∈ [Value.int .u64 k.1, .int .i64 k.2], v.oneCell' = true := by
  intro v hv; simp at hv; rcases hv with rfl | rfl <;> rfl

set_option maxHeartbeats 4000000 in
set_option maxRecDepth 1000000 in
/-- Behind all. -/
theorem insert_end {w : World} {B : Nat} {v : Value} {l : List K} (hO : OwnK w B 26 v l) (hB : B ≤ w.heap.size) (hk : ∀ x ∈ l, Kin x) (hl : l.length ≤ 1000) (k : K) (hkk : Kin k) (vb : Nat) (h1 : One w vb k) :
    Calls Try.prog 33 #[v, .int .i64 l.length, .slice (some ⟨vb, 0, none⟩) 1 1] w fun e w' => (∃ v', e = .returned v' ∧ Keys w' v' (l ++ [k])) ∧ Below B w w' := by
  have HO := Lib.hid hO
  have HX := Lib.hid (h1.keys hkk)
  have HK : Hid (∀ x ∈ l ++ [k], Kin x) := Lib.hid (fun x hx => by
    rcases List.mem_append.1 hx with h | h
    · exact hk x h
    · simp at h; subst h; exact hkk)
  clear hk hkk h1
  rcases hO.2 with ⟨rfl, hn⟩ | ⟨g, cap, cur, rfl, -, -, hnc, hcm, -, -⟩
  · obtain rfl : l = [] := List.eq_nil_of_length_eq_zero hn
    clear hO
    go_enter Try.func33, Try.ntmps33
    go_wp2_with (at_builtin; refine wpList_append_keys rfl (.tmp 23) (.tmp 24) 23 rfl B 26 Try.underlying23 info_key (by decide) [] [k] HO.out HX.out (by simp) hB ?_; intro v' w2 hown2 hbel2)
    go_ret
    exact ⟨⟨_, rfl, hown2.keys HK.out⟩, hbel2⟩
  · unfold maxLen at hcm
    clear hO
    go_enter Try.func33, Try.ntmps33
    go_wp2_with (at_builtin; refine wpList_append_keys rfl (.tmp 23) (.tmp 24) 23 rfl B 26 Try.underlying23 info_key (by decide) l [k] HO.out HX.out (by simp; omega) hB ?_; intro v' w2 hown2 hbel2)
    all_goals go_ret
    all_goals exact ⟨⟨_, rfl, hown2.keys HK.out⟩, hbel2⟩
end Go.Proofs.Ytdmkaclihopmkaa
