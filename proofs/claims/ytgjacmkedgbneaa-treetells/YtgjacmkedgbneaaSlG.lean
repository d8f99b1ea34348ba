/-
  A slice of structs of one-cell fields as a list of whatever is written so: what a walk reads of one, wherever it came from, that it stays so while nothing old turns, and appending to one that the call itself made. Of no layer; no condition but room.
-/
import Derived.Test.YtgjacmkedgbneaaSlA
import Derived.Deep.Slices
import Derived.Deep.Fields
import Derived.ChangeSame
namespace Go.Proofs.Ytgjacmkedgbneaa
open Go.RowKit Go.ChangeAt Go.ChangeShapes Go.WideShapes Go.Deep

/-- How an x lies as a struct of n one-cell fields. -/
structure Enc (α : Type) where
  n : Nat
  f : α → List Value
  d : α
  ok : α → Prop
  pos : 0 < n
  len : ∀ x, (f x).length = n
  one : ∀ x, ∀ y ∈ f x, y.oneCell' = true

variable {α : Type} {E : Enc α}

/-- The cells of a list of them. -/
def cellsE (E : Enc α) (l : List α) : List Value := l.flatMap E.f
theorem cellsE_length (l : List α) : (cellsE E l).length = l.length * E.n := by
  induction l with
  | nil => simp [cellsE]
  | cons x l ih =>
    have e : cellsE E (x :: l) = E.f x ++ cellsE E l := rfl
    rw [e, List.length_append, ih, E.len, List.length_cons, Nat.add_mul]; omega
theorem cellsE_append (a b : List α) : cellsE E (a ++ b) = cellsE E a ++ cellsE E b := by unfold cellsE; rw [List.flatMap_append]
theorem cellsE_at (l : List α) (i : Nat) (hi : i < l.length) (j : Nat) (hj : j < E.n) : (cellsE E l)[i * E.n + j]? = (E.f (l.getD i E.d))[j]? := by
  induction l generalizing i with
  | nil => exact absurd hi (Nat.not_lt_zero _)
  | cons x l ih =>
    have e : cellsE E (x :: l) = E.f x ++ cellsE E l := rfl
    have hx := E.len x
    match i with
    | 0 => rw [e, List.getElem?_append_left (by omega)]; simp [List.getD]
    | i + 1 =>
      have h := ih i (by simpa using hi)
      have e2 : (i + 1) * E.n + j - (E.f x).length = i * E.n + j := by rw [hx, Nat.add_mul]; omega
      rw [e, List.getElem?_append_right (by rw [hx, Nat.add_mul]; omega), e2, h]
      simp [List.getD]
theorem cellsE_one (l : List α) : ∀ y ∈ cellsE E l, y.oneCell' = true := by
  intro y hy
  unfold cellsE at hy
  obtain ⟨x, -, hx⟩ := List.mem_flatMap.1 hy
  exact E.one x y hx

/-- The value v is a slice whose elements are l. -/
def Els (E : Enc α) (w : World) (v : Value) (l : List α) : Prop :=
  ∃ a cap, v = .slice a l.length cap ∧ (l.length ≤ cap ∧ cap ≤ maxLen) ∧ (∀ x ∈ l, E.ok x) ∧
    (l ≠ [] → ∃ b off, a = some ⟨b, off, none⟩ ∧ ∀ i, i < l.length → ∀ j, j < E.n → w.cell? ⟨b, off + i * E.n + j, none⟩ = (E.f (l.getD i E.d))[j]?)

theorem Els.parts {w : World} {v : Value} {l : List α} (h : Els E w v l) :
    (l = [] ∧ ∃ a cap, v = .slice a 0 cap) ∨ (0 < l.length ∧ ∃ b off cap, v = .slice (some ⟨b, off, none⟩) l.length cap ∧ (l.length ≤ cap ∧ cap ≤ maxLen) ∧ b < w.heap.size ∧ ∀ i, i < l.length → ∀ j, j < E.n → w.cell? ⟨b, off + i * E.n + j, none⟩ = (E.f (l.getD i E.d))[j]?) := by
  obtain ⟨a, cap, rfl, hm, -, hc⟩ := h
  by_cases hz : l = []
  · subst hz; exact .inl ⟨rfl, a, cap, rfl⟩
  · obtain ⟨b, off, rfl, hc2⟩ := hc hz
    have hp : 0 < l.length := List.length_pos_iff.2 hz
    have h0 := hc2 0 hp 0 E.pos
    rw [List.getElem?_eq_getElem (by rw [E.len]; exact E.pos)] at h0
    exact .inr ⟨hp, b, off, cap, rfl, hm, World.block_lt_of_cell? w _ h0, hc2⟩
theorem Els.oks {w : World} {v : Value} {l : List α} (h : Els E w v l) : ∀ x ∈ l, E.ok x := by
  obtain ⟨a, cap, rfl, hm, h, hc⟩ := h
  exact h
theorem Els.shape {w : World} {v : Value} {l : List α} (h : Els E w v l) : ∃ a cap, v = .slice a l.length cap ∧ l.length ≤ cap ∧ cap ≤ maxLen := by
  obtain ⟨a, cap, rfl, hm, -, -⟩ := h
  exact ⟨a, cap, rfl, hm⟩
theorem Els.below {w w' : World} {v : Value} {l : List α} (h : Els E w v l) (hb : Below w.heap.size w w') : Els E w' v l := by
  obtain ⟨a, cap, rfl, hm, hw, hc⟩ := h
  refine ⟨a, cap, rfl, hm, hw, fun hz => ?_⟩
  obtain ⟨b, off, rfl, hc2⟩ := hc hz
  refine ⟨b, off, rfl, fun i hi j hj => ?_⟩
  have h0 := hc2 i hi j hj
  have hs : ∃ y, (E.f (l.getD i E.d))[j]? = some y := ⟨_, List.getElem?_eq_getElem (by rw [E.len]; exact hj)⟩
  obtain ⟨y, hy⟩ := hs
  rw [hy] at h0 ⊢
  rw [hb.cell (p := ⟨b, off + i * E.n + j, none⟩) (World.block_lt_of_cell? w _ h0)]
  exact h0

/-- A slice just laid. -/
theorem els_new (w : World) (t : TypeId) (l : List α) (hw : ∀ x ∈ l, E.ok x) (vs : Array Value) (hvs : vs = (cellsE E l).toArray) (n : Nat) (hn : n = l.length) (q : Nat) (hq : q = w.heap.size) (cap : Nat) (hm : l.length ≤ cap ∧ cap ≤ maxLen) :
    Els E (w.alloc (.cells vs t)) (.slice (some ⟨q, 0, none⟩) n cap) l := by
  subst hvs hn hq
  refine ⟨_, _, rfl, hm, hw, fun _ => ⟨_, _, rfl, fun i hi j hj => ?_⟩⟩
  have hh : (w.alloc (.cells (cellsE E l).toArray t)).heap[w.heap.size]? = some (.cells (cellsE E l).toArray t) := heap_alloc_new w _
  have := cellsE_at l i hi j hj
  simp only [World.cell?, hh]
  simpa using this

/-- The call's own slice v holds l. -/
def OwnE (E : Enc α) (w : World) (B : Nat) (e : TypeId) (v : Value) (l : List α) : Prop := w.ownsRow B e E.n v l.length (cellsE E l)
theorem OwnE.nil (w : World) (B : Nat) (e : TypeId) : OwnE E w B e (.slice none 0 0) [] := World.ownsRow_nil w B e E.n
theorem OwnE.alloc {w : World} {B : Nat} {e : TypeId} {v : Value} {l : List α} (h : OwnE E w B e v l) (o : Obj) : OwnE E (w.alloc o) B e v l := World.ownsRow.alloc h o
theorem OwnE.below {w w' : World} {B : Nat} {e : TypeId} {v : Value} {l : List α} (h : OwnE E w B e v l) (hb : Below w.heap.size w w') : OwnE E w' B e v l := by
  refine World.ownsRow.kept (row := none) h ⟨hb.os, hb.tape, hb.output, hb.size, fun i hi _ => hb.block i hi⟩ ?_
  cases v.ownBlock <;> simp
theorem OwnE.lt {w : World} {B : Nat} {e : TypeId} {v : Value} {l : List α} (h : OwnE E w B e v l) : ∀ r, v.ownBlock = some r → B ≤ r := fun r hr => (World.ownsRow.lt h r hr).1
theorem OwnE.els {w : World} {B : Nat} {e : TypeId} {v : Value} {l : List α} (h : OwnE E w B e v l) (hw : ∀ x ∈ l, E.ok x) : Els E w v l := by
  have h0 := h
  obtain ⟨hl, hr⟩ := h
  rcases hr with ⟨rfl, h1⟩ | ⟨g, cap, cur, rfl, _, hg, hn, hm, _, ht⟩
  · obtain rfl := List.eq_nil_of_length_eq_zero h1
    exact ⟨none, 0, rfl, ⟨Nat.le_refl _, Nat.zero_le _⟩, by simp, fun h => absurd rfl h⟩
  · refine ⟨some ⟨g, 0, none⟩, cap, rfl, ⟨hn, hm⟩, hw, fun _ => ⟨g, 0, rfl, fun i hi j hj => ?_⟩⟩
    have ha := cellsE_at (E := E) l i hi j hj
    obtain ⟨y, hy⟩ : ∃ y, (E.f (l.getD i E.d))[j]? = some y := ⟨_, List.getElem?_eq_getElem (by rw [E.len]; exact hj)⟩
    rw [hy] at ha ⊢
    have c0 := World.ownsRow.cells h0 (g := g) rfl (i * E.n + j) y ha
    rw [Go.WideShapes.add_plain] at c0
    rw [Nat.zero_add] at c0 ⊢
    exact c0

section
variable {P : Program} {w : World} {B : Nat} {t ty e : TypeId} {i : TypeInfo} {z v u : Value} {bytes : Nat} {zs ys : List α}

theorem run_append_none_e (ht : P.underlying t = some (.slice e)) (hi : P.info? e = some i) (h : OwnE E w B e v zs) (a : Option Addr) (cap : Nat) :
    (Builtin.append_ #[t, t] ty #[v, .slice a 0 cap]).run P w = .ok v w := by
  rcases h.2 with ⟨rfl, h0⟩ | ⟨g, c, cur, rfl, _, _, hnc, _⟩
  · cases a <;> simp [Builtin.append_, run_underlying ht, sizeOf, typeInfo, hi, Builtin.lenOf, Builtin.firstCells, loadCells, loadCellsFrom]
  · cases a <;> simp [Builtin.append_, run_underlying ht, sizeOf, typeInfo, hi, Builtin.lenOf, Builtin.firstCells, loadCells, loadCellsFrom, hnc, storeCells]

theorem run_append_els (ht : P.underlying t = some (.slice e)) (hi : P.info? e = some i) (hz : i.zero = some z) (hsize : i.size = E.n) (hby : i.bytes = bytes) (hzs : z.cells.size = E.n)
    (h : OwnE E w B e v zs) (hx : Els E w u ys) (hroom : (zs.length + ys.length) * E.n ≤ 1048576) (hroom2 : zs.length + ys.length ≤ 1048576) (hb : bytes ≤ 1048576) (hB : B ≤ w.heap.size) :
    ∃ v' w', (Builtin.append_ #[t, t] ty #[v, u]).run P w = .ok v' w' ∧ OwnE E w' B e v' (zs ++ ys) ∧ w.grownBy w' v.ownBlock := by
  rcases hx.parts with ⟨rfl, a, cap, rfl⟩ | ⟨hp, b, off, cap, rfl, hm, hbw, hc⟩
  · refine ⟨v, w, run_append_none_e ht hi h a cap, by simpa using h, ⟨rfl, rfl, rfl, Nat.le_refl _, fun _ _ _ => rfl⟩⟩
  · have hmul : (zs.length + ys.length) * bytes ≤ 140737488355328 := Nat.le_trans (Nat.mul_le_mul hroom2 hb) (by omega)
    have hn := E.pos
    obtain ⟨v', w', hr, h2, h3, h4⟩ := run_append_own (P := P) w B t ty e i z E.n bytes ht hi hz hsize hby hzs E.pos v zs.length (cellsE E zs) h ⟨b, off, none⟩ ys.length cap (cellsE E ys) (cellsE_length ys)
      (fun j y hy => by
        have hj : j < (cellsE E ys).length := (List.getElem?_eq_some_iff.1 hy).1
        rw [cellsE_length] at hj
        rw [Go.WideShapes.add_plain]
        have hd : j / E.n < ys.length := by
          rw [Nat.div_lt_iff_lt_mul E.pos]; exact hj
        have hmm : j % E.n < E.n := Nat.mod_lt _ E.pos
        have hcj := hc (j / E.n) hd (j % E.n) hmm
        have haj := cellsE_at (E := E) ys (j / E.n) hd (j % E.n) hmm
        have e1 : j / E.n * E.n + j % E.n = j := by rw [Nat.mul_comm]; exact Nat.div_add_mod j E.n
        rw [e1] at haj
        rw [show off + j / E.n * E.n + j % E.n = off + j by omega] at hcj
        rw [hcj, ← haj]; exact hy)
      (cellsE_one ys) (by unfold maxLen; omega) hmul hB
    refine ⟨v', w', hr, ?_, h3⟩
    unfold OwnE
    rw [List.length_append, cellsE_append]
    exact h2

/-- The walk's step at an append of such elements onto a slice of the call's own. -/
theorem wpList_append_els {ops : Array Oper} {rest : List Oper} {o : Oper} {a : Act} {Q : Exit → Act → World → Prop} (E : Enc α) (hgd : o.guard = none) (s x : Operand) (t : TypeId)
    (ho : o.op = .call { callee := .builtin .append, args := #[s, x], argTypes := #[t, t] }) (B : Nat) (e : TypeId) (ht : P.underlying t = some (.slice e)) (hi : (P.info? e).map (fun i => (i.zero, i.size, i.bytes)) = some (some z, E.n, bytes)) (hzs : z.cells.size = E.n)
    (hb : bytes ≤ 1048576) (zs ys : List α) (h : OwnE E w B e (a.eval s) zs) (hx : Els E w (a.eval x) ys) (hroom : (zs.length + ys.length) * E.n ≤ 1048576) (hroom2 : zs.length + ys.length ≤ 1048576) (hB : B ≤ w.heap.size)
    (hK : ∀ v' w', OwnE E w' B e v' (zs ++ ys) → Below B w w' → wpList P ops Q rest (a.put o.dst v') w') : wpList P ops Q (o :: rest) a w := by
  obtain ⟨i, hi, hz, hs1, hs2⟩ := info_parts hi
  obtain ⟨v', w', hr, h2, h3⟩ := run_append_els (ty := o.type) ht hi hz hs1 hs2 hzs h hx hroom hroom2 hb hB
  refine wpList_plain hgd fun K hKK => ?_
  have hbel : Below B w w' := (Below.refl B w).grown h3 hB h.lt
  unfold Oper.wp execOp
  simp only [ho, resolve, invoke, builtin, Sem.run_bind, Sem.run_pure, Result.andThen_ok, List.map_toArray, List.map_cons, List.map_nil, hr]
  exact hKK _ _ (hK v' w' h2 hbel)
/-- The same inside a region that draws its order (go_region_law). -/
theorem step_append_els {ops : Array Oper} {o : Oper} {a : Act} {K : Act → World → Prop} {Q : Exit → Act → World → Prop} {X : Prop} (E : Enc α) (hgd : o.guard = none) (s x : Operand) (t : TypeId)
    (ho : o.op = .call { callee := .builtin .append, args := #[s, x], argTypes := #[t, t] }) (B : Nat) (e : TypeId) (ht : P.underlying t = some (.slice e)) (hi : (P.info? e).map (fun i => (i.zero, i.size, i.bytes)) = some (some z, E.n, bytes)) (hzs : z.cells.size = E.n)
    (hb : bytes ≤ 1048576) (zs ys : List α) (h : OwnE E w B e (a.eval s) zs) (hx : Els E w (a.eval x) ys) (hroom : (zs.length + ys.length) * E.n ≤ 1048576) (hroom2 : zs.length + ys.length ≤ 1048576) (hB : B ≤ w.heap.size)
    (hK : ∀ v' w', OwnE E w' B e v' (zs ++ ys) → Below B w w' → K (a.put o.dst v') w') : if Region.wanted o (yielded ops a.tmps) = true then Oper.wp P o a w K Q else X := by
  have hw : Region.wanted o (yielded ops a.tmps) = true := by simp [Region.wanted, hgd]
  rw [if_pos hw]
  obtain ⟨i, hi, hz, hs1, hs2⟩ := info_parts hi
  obtain ⟨v', w', hr, h2, h3⟩ := run_append_els (ty := o.type) ht hi hz hs1 hs2 hzs h hx hroom hroom2 hb hB
  have hbel : Below B w w' := (Below.refl B w).grown h3 hB h.lt
  unfold Oper.wp execOp
  simp only [ho, resolve, invoke, builtin, Sem.run_bind, Sem.run_pure, Result.andThen_ok, List.map_toArray, List.map_cons, List.map_nil, hr]
  exact hK v' w' h2 hbel
end
theorem Els.drew {w : World} {v : Value} {l : List α} (h : Els E w v l) : Els E w.drew v l := h
theorem OwnE.drew {w : World} {B : Nat} {e : TypeId} {v : Value} {l : List α} (h : OwnE E w B e v l) : OwnE E w.drew B e v l := h

section
variable {H : Type} {enc : TypeId × Value → H} {P : Program} {W : World} {b0 : Nat} {held : Bool}

/-- A struct's cells read as its fields do. -/
theorem struct_fields {e : TypeId} {fs : Array Field} (he : P.underlying e = some (.struct fs)) (hone : oneCellFields P fs = true) {m : Nat} {cs : List Value} {y : DataW H × List MemPlace}
    (h : DataW.trod enc P W b0 (fun _ => true) held m e cs = some y) : ∀ (j : Nat) (f : Field) (c : Value), fs[j]? = some f → cs[j]? = some c → ∃ m y, DataW.trod enc P W b0 (fun _ => true) held m f.type [c] = some y := by
  obtain ⟨xs, n, -, -, -, hlen, hg⟩ := DataW.trod_struct he h
  intro j f c hj hc
  obtain ⟨o, k⟩ := hone_of hone j f hj
  have h1 := hg j f hj
  have hjl : j < xs.length := by rw [hlen]; exact (Array.getElem?_eq_some_iff.1 hj).1
  rw [o, k, List.getElem?_eq_getElem hjl] at h1
  have hone' : (cs.drop j).take 1 = [c] := by
    have hcl : j < cs.length := (List.getElem?_eq_some_iff.1 hc).1
    rw [List.drop_eq_getElem_cons hcl, (List.getElem?_eq_some_iff.1 hc).2]
    rfl
  rw [hone'] at h1
  exact ⟨_, _, h1⟩

/-- A cell that is a slice of such structs, read: what it holds. 'dec': what the fields' readings tell. -/
theorem els_field (E : Enc α) [Inhabited α] {t e : TypeId} {fs : Array Field} {c : Value} {m : Nat} {y : DataW H × List MemPlace}
    (ht : P.underlying t = some (.slice e)) (he : P.underlying e = some (.struct fs)) (hone : oneCellFields P fs = true) (hC : P.cellsOf e = E.n)
    (dec : ∀ cs : List Value, cs.length = E.n → (∀ (j : Nat) (f : Field) (c : Value), fs[j]? = some f → cs[j]? = some c → ∃ m y, DataW.trod enc P W b0 (fun _ => true) held m f.type [c] = some y) → ∃ x, cs = E.f x ∧ E.ok x)
    (hf : DataW.trod enc P W b0 (fun _ => true) held m t [c] = some y) : ∃ l, Els E W c l := by
  rcases open_slice ht hf with ⟨hcs, hx⟩ | ⟨a, len, cap, mm, n, D, Pl, hcs, hb, hl, hm, hmm, hx, hel⟩
  · obtain rfl : c = .slice none 0 0 := by simpa using hcs
    exact ⟨[], none, 0, rfl, ⟨Nat.le_refl _, Nat.zero_le _⟩, by simp, fun h => absurd rfl h⟩
  · obtain rfl : c = .slice (some a) len cap := by simpa using hcs
    simp only [if_true] at hmm
    subst hmm
    have each : ∀ i, i < len → ∃ q : α, (∀ j, j < E.n → W.cell? (a.add (i * E.n + j)) = (E.f q)[j]?) ∧ E.ok q := by
      intro i hi
      obtain ⟨cs', h1, h2⟩ := hel i (by omega)
      rw [hC] at h1
      obtain ⟨-, hlen, hcell⟩ := World.cells?_some h1
      obtain ⟨q, rfl, hq⟩ := dec cs' hlen (struct_fields he hone h2)
      refine ⟨q, fun j hj => ?_, hq⟩
      have := hcell j hj
      rwa [Go.Deep.add_add] at this
    obtain ⟨q, hq⟩ := choose_lt each
    refine ⟨(List.range len).map q, some a, _, by simp; rfl, ⟨by simp; omega, by omega⟩, fun x hx => ?_, fun hne => ?_⟩
    · obtain ⟨i, hi, rfl⟩ := List.mem_map.1 hx
      exact (hq i (List.mem_range.1 hi)).2
    · have hp : 0 < len := by
        rcases Nat.eq_zero_or_pos len with h0 | h0
        · subst h0; exact absurd rfl hne
        · exact h0
      obtain ⟨b, off, spot⟩ := a
      have h00 := (hq 0 hp).1 0 E.pos
      rw [List.getElem?_eq_getElem (by rw [E.len]; exact E.pos)] at h00
      have hspot : spot = none := by simpa [Addr.add] using World.cell?_spot h00
      subst hspot
      refine ⟨b, off, rfl, fun i hi j hj => ?_⟩
      have hi' : i < len := by simpa using hi
      have := (hq i hi').1 j hj
      rw [Go.WideShapes.add_plain] at this
      have eg : ((List.range len).map q).getD i E.d = q i := by simp [List.getD, hi']
      rw [eg, show off + i * E.n + j = off + (i * E.n + j) by omega]
      exact this
/-- An argument that is such a slice. -/
theorem els_arg (E : Enc α) [Inhabited α] {r : Reach} {base : Nat} {t e : TypeId} {fs : Array Field} {v : Value} {d : DataW H} {p : List MemPlace}
    (ht : P.underlying t = some (.slice e)) (he : P.underlying e = some (.struct fs)) (hone : oneCellFields P fs = true) (hC : P.cellsOf e = E.n)
    (dec : ∀ cs : List Value, cs.length = E.n → (∀ (j : Nat) (f : Field) (c : Value), fs[j]? = some f → cs[j]? = some c → ∃ m y, DataW.trod enc P W b0 (fun _ => true) held m f.type [c] = some y) → ∃ x, cs = E.f x ∧ E.ok x)
    (hok : Value.okWide P W r base t v) (h : DataW.Trod enc P W b0 (fun _ => true) held t v d p) : ∃ l, Els E W v l := by
  obtain ⟨a0, len, cap, rfl⟩ := okWide_slice ht hok
  obtain ⟨fuel, hf⟩ := h
  exact els_field E ht he hone hC dec hf
end
end Go.Proofs.Ytgjacmkedgbneaa
