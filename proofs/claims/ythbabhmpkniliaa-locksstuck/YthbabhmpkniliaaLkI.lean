/-
  Appending one number to a list of the call's own, and where it lies then; what a game is behind a taking and behind a giving back. No condition but room.
-/
import Derived.Test.YthbabhmpkniliaaLkG
import Derived.Deep.RegionLaw
namespace Go.Proofs.Ythbabhmpkniliaa
open Go.RowKit Go.ChangeAt Go.ChangeShapes Go.WideShapes Go.Sort Go.Deep Lk

section
variable {P : Program} {w : World} {B : Nat} {t ty e : TypeId} {i : TypeInfo} {z : Value} {bytes : Nat} {v : Value} {zs : List Int} {x : Int} {q c : Nat}
theorem run_append_one (ht : P.underlying t = some (.slice e)) (hi : P.info? e = some i) (hz : i.zero = some z) (hsize : i.size = 1) (hby : i.bytes = bytes) (hzs : z.cells.size = 1)
    (h : Own .i64 w B e v zs) (hc : w.cell? ⟨q, 0, none⟩ = some (.int .i64 x)) (hroom : zs.length + 1 ≤ 1048576) (hb : bytes ≤ 1048576) (hB : B ≤ w.heap.size) :
    ∃ v' w', (Builtin.append_ #[t, t] ty #[v, .slice (some ⟨q, 0, none⟩) 1 c]).run P w = .ok v' w' ∧ Own .i64 w' B e v' (zs ++ [x]) ∧ w.grownBy w' v.ownBlock ∧ (v'.ownBlock = v.ownBlock ∨ ∃ r, v'.ownBlock = some r ∧ w.heap.size ≤ r) := by
  have hmul : (zs.length + 1) * bytes ≤ 140737488355328 := Nat.le_trans (Nat.mul_le_mul hroom hb) (by omega)
  obtain ⟨g, cap, w', hr, h2, h3, h4, h5⟩ := run_append_lies (P := P) w t ty B e i z 1 bytes ht hi hz hsize hby hzs (by omega) v zs.length (zs.map (Value.int .i64)) h ⟨q, 0, none⟩ 1 c [.int .i64 x] (by simp)
    (fun j u hu => by
      match j with
      | 0 => simp at hu; subst hu; simpa [Addr.add] using hc
      | j + 1 => simp at hu)
    (fun u hu => by simp at hu; subst hu; rfl) (by omega) (by unfold maxLen; omega) hmul hB _ rfl
  refine ⟨_, w', hr, ?_, h3, ?_⟩
  · unfold Own
    rw [List.length_append, List.map_append]
    exact h2
  · rcases h4 with h4 | h4
    · exact .inl (by rw [h4]; rfl)
    · exact .inr ⟨g, rfl, by omega⟩
theorem step_append_one {ops : Array Oper} {o : Oper} {a : Act} {Kk : Act → World → Prop} {Q : Exit → Act → World → Prop} {E : Prop} (hgd : o.guard = none) (s y : Operand) (t : TypeId)
    (ho : o.op = .call { callee := .builtin .append, args := #[s, y], argTypes := #[t, t] }) (B : Nat) (e : TypeId) (ht : P.underlying t = some (.slice e)) (hi : (P.info? e).map (fun i => (i.zero, i.size, i.bytes)) = some (some (.int .i64 0), 1, bytes))
    (hb : bytes ≤ 1048576) (v : Value) (hv : a.eval s = v) (zs : List Int) (h : Own .i64 w B e v zs) (x : Int) (q c : Nat) (hy : a.eval y = .slice (some ⟨q, 0, none⟩) 1 c) (hc : w.cell? ⟨q, 0, none⟩ = some (.int .i64 x)) (hroom : zs.length + 1 ≤ 1048576) (hB : B ≤ w.heap.size)
    (hK : ∀ v' w', Own .i64 w' B e v' (zs ++ [x]) → w.grownBy w' v.ownBlock → (v'.ownBlock = v.ownBlock ∨ ∃ r, v'.ownBlock = some r ∧ w.heap.size ≤ r) → Kk (a.put o.dst v') w') : if Region.wanted o (yielded ops a.tmps) = true then Oper.wp P o a w Kk Q else E := by
  have hw : Region.wanted o (yielded ops a.tmps) = true := by simp [Region.wanted, hgd]
  rw [if_pos hw]
  subst hv
  obtain ⟨i, hi, hz, hs1, hs2⟩ := info_parts hi
  obtain ⟨v', w', hr, h2, h3, h4⟩ := run_append_one (ty := o.type) (c := c) ht hi hz hs1 hs2 rfl h hc hroom hb hB
  unfold Oper.wp execOp
  simp only [ho, resolve, invoke, builtin, Sem.run_bind, Sem.run_pure, Result.andThen_ok, List.map_toArray, List.map_cons, List.map_nil, hy, hr]
  exact hK v' w' h2 h3 h4
theorem wpList_append_one {ops : Array Oper} {rest : List Oper} {o : Oper} {a : Act} {Q : Exit → Act → World → Prop} (hgd : o.guard = none) (s y : Operand) (t : TypeId)
    (ho : o.op = .call { callee := .builtin .append, args := #[s, y], argTypes := #[t, t] }) (B : Nat) (e : TypeId) (ht : P.underlying t = some (.slice e)) (hi : (P.info? e).map (fun i => (i.zero, i.size, i.bytes)) = some (some (.int .i64 0), 1, bytes))
    (hb : bytes ≤ 1048576) (v : Value) (hv : a.eval s = v) (zs : List Int) (h : Own .i64 w B e v zs) (x : Int) (q c : Nat) (hy : a.eval y = .slice (some ⟨q, 0, none⟩) 1 c) (hc : w.cell? ⟨q, 0, none⟩ = some (.int .i64 x)) (hroom : zs.length + 1 ≤ 1048576) (hB : B ≤ w.heap.size)
    (hK : ∀ v' w', Own .i64 w' B e v' (zs ++ [x]) → w.grownBy w' v.ownBlock → (v'.ownBlock = v.ownBlock ∨ ∃ r, v'.ownBlock = some r ∧ w.heap.size ≤ r) → wpList P ops Q rest (a.put o.dst v') w') : wpList P ops Q (o :: rest) a w := by
  subst hv
  obtain ⟨i, hi, hz, hs1, hs2⟩ := info_parts hi
  obtain ⟨v', w', hr, h2, h3, h4⟩ := run_append_one (ty := o.type) (c := c) ht hi hz hs1 hs2 rfl h hc hroom hb hB
  refine wpList_plain hgd fun K hKK => ?_
  unfold Oper.wp execOp
  simp only [ho, resolve, invoke, builtin, Sem.run_bind, Sem.run_pure, Result.andThen_ok, List.map_toArray, List.map_cons, List.map_nil, hy, hr]
  exact hKK _ _ (hK v' w' h2 h3 h4)
end

theorem upd_comm (R : Nat → Value) {i j : Nat} (h : i ≠ j) (x y : Value) : upd (upd R i x) j y = upd (upd R j y) i x := by
  funext k
  unfold upd
  by_cases e1 : k = j
  · subst e1; rw [if_pos rfl, if_neg (fun e => h e.symm), if_pos rfl]
  · by_cases e2 : k = i
    · subst e2; rw [if_neg e1, if_pos rfl, if_pos rfl]
    · rw [if_neg e1, if_neg e2, if_neg e2, if_neg e1]

/-- Both stores of a taking, in either order. -/
theorem Gm.take {W : World} {G Jb n : Nat} {o : Bool} {w w1 w2 : World} {s : St} {vl R : Nat → Value} (h : Gm W G Jb n o w s vl R) {k : Nat} (hk : k < n) {lock : Int} (hl : wantsF o (s.l k) (s.h k) = lock) (hw : lock ≠ -1) (hE : takeE s.b lock k = 0)
    (hb1 : Below w.heap.size w w1) (vb : Value) (hOb : Own .i64 w1 W.heap.size 3 vb (s.b.set lock.toNat k)) (hfr : ∀ r, vb.ownBlock = some r → w.heap.size ≤ r)
    (vh : Value) (hOh : Own .i64 w2 W.heap.size 3 vh (s.h k ++ [lock])) (hg : w1.grownBy w2 (R (k + 2)).ownBlock) (hloc : vh.ownBlock = (R (k + 2)).ownBlock ∨ ∃ r, vh.ownBlock = some r ∧ w1.heap.size ≤ r) :
    (∃ vl' R', Gm W G Jb n o ((w2.setCell ⟨G, 0, none⟩ vb).setCell ⟨Jb, k * 2 + 1, none⟩ vh) (stepF o s k) vl' R') ∧ (∃ vl' R', Gm W G Jb n o ((w2.setCell ⟨Jb, k * 2 + 1, none⟩ vh).setCell ⟨G, 0, none⟩ vb) (stepF o s k) vl' R') := by
  have hs : stepF o s k = { s with b := s.b.set lock.toNat k, H := s.H.set k (s.h k ++ [lock]) } := by unfold stepF; rw [hl, if_pos hw, if_pos hE]
  have hgood := h.good.step o hk h.n64
  rw [hs] at hgood ⊢
  have c2 := (h.c.grown (grown_of_below hb1) (by simp) (by simp)).grown hg (h.r.away (k + 2) (by omega)).1 (h.r.away (k + 2) (by omega)).2
  have r1 := h.r.put (i := 0) (by omega) (grown_of_below hb1) (.inl rfl) vb (X' := rowL { s with b := s.b.set lock.toNat k }) hOb (fun j hj => by
    match j with
    | 0 => exact absurd rfl hj
    | 1 => rfl
    | j + 2 => rfl) h.c.hG h.c.hJ (by
    cases e : vb.ownBlock with
    | none => exact .inl rfl
    | some r => exact .inr (.inr ⟨r, rfl, hfr r e⟩))
  have e0 : (upd R 0 vb) (k + 2) = R (k + 2) := upd_ne _ _ (by omega)
  have sz := hb1.size
  have hH : ∀ j, (s.H.set k (s.h k ++ [lock])).getD j [] = if j = k then s.h k ++ [lock] else s.h j := fun j => getD_set_ite _ _ _ _ _ (by rw [h.good.lenH]; exact hk)
  have r2 := r1.put (i := k + 2) (by omega) hg (.inr (by rw [e0])) vh (X' := rowL { s with b := s.b.set lock.toNat k, H := s.H.set k (s.h k ++ [lock]) })
    (by show Own .i64 w2 W.heap.size 3 vh ((s.H.set k (s.h k ++ [lock])).getD k []); rw [hH, if_pos rfl]; exact hOh)
    (fun j hj => by
      match j with
      | 0 => rfl
      | 1 => rfl
      | j + 2 => show (s.H.set k (s.h k ++ [lock])).getD j [] = s.h j; rw [hH, if_neg (by omega)])
    (by have := h.c.hG; omega) (by have := h.c.hJ; omega) (by rw [e0]; exact .inr hloc)
  have hbel : Below W.heap.size W w2 := (h.bel.trans (hb1.mono h.bel.size)).grown hg (Nat.le_trans h.bel.size sz) (fun r hr => (h.r.own (k + 2) (by omega)).lt r hr)
  have hB := h.hB
  refine ⟨⟨vl, upd (upd R 0 vb) (k + 2) vh, (c2.put (i := 0) (by omega) vb).put (i := k + 2) (by omega) vh, (r2.setc (a := ⟨G, 0, none⟩) (.inl rfl) vb).setc (a := ⟨Jb, k * 2 + 1, none⟩) (.inr rfl) vh, h.l, (hbel.setCell (p := ⟨G, 0, none⟩) hB.1 vb).setCell (p := ⟨Jb, k * 2 + 1, none⟩) hB.2 vh, hB, h.n64, hgood⟩,
    ⟨vl, upd (upd R 0 vb) (k + 2) vh, ?_, (r2.setc (a := ⟨Jb, k * 2 + 1, none⟩) (.inr rfl) vh).setc (a := ⟨G, 0, none⟩) (.inl rfl) vb, h.l, (hbel.setCell (p := ⟨Jb, k * 2 + 1, none⟩) hB.2 vh).setCell (p := ⟨G, 0, none⟩) hB.1 vb, hB, h.n64, hgood⟩⟩
  rw [upd_comm R (by omega)]
  exact (c2.put (i := k + 2) (by omega) vh).put (i := 0) (by omega) vb

/-- One lock is given back. -/
theorem Gm.give {W : World} {G Jb n : Nat} {o : Bool} {w w1 : World} {s : St} {vl R : Nat → Value} (h : Gm W G Jb n o w s vl R) (b : List Int) (hb2 : b.length ≤ 65 ∧ ∀ z ∈ b, I z)
    (hb1 : Below w.heap.size w w1) (vb : Value) (hOb : Own .i64 w1 W.heap.size 3 vb b) (hfr : ∀ r, vb.ownBlock = some r → w.heap.size ≤ r) :
    Gm W G Jb n o (w1.setCell ⟨G, 0, none⟩ vb) { s with b := b } vl (upd R 0 vb) := by
  have c2 := h.c.grown (grown_of_below hb1) (by simp) (by simp)
  have r1 := h.r.put (i := 0) (by omega) (grown_of_below hb1) (.inl rfl) vb (X' := rowL { s with b := b }) hOb (fun j hj => by
    match j with
    | 0 => exact absurd rfl hj
    | 1 => rfl
    | j + 2 => rfl) h.c.hG h.c.hJ (by
    cases e : vb.ownBlock with
    | none => exact .inl rfl
    | some r => exact .inr (.inr ⟨r, rfl, hfr r e⟩))
  exact ⟨c2.put (i := 0) (by omega) vb, r1.setc (a := ⟨G, 0, none⟩) (.inl rfl) vb, h.l, (h.bel.trans (hb1.mono h.bel.size)).setCell (p := ⟨G, 0, none⟩) h.hB.1 vb, h.hB, h.n64, ⟨hb2, h.good.lenL, h.good.lenH, h.good.l, h.good.h, h.good.d, h.good.nz⟩⟩

/-- A section is done: what is left, and that nothing is had. -/
theorem Gm.next {W : World} {G Jb n : Nat} {o : Bool} {w : World} {s : St} {vl R : Nat → Value} (h : Gm W G Jb n o w s vl R) {k : Nat} (hk : k < n) (v : Value) (hv : Ps W v (s.l k).tail) :
    Gm W G Jb n o ((w.setCell ⟨Jb, k * 2, none⟩ v).setCell ⟨Jb, k * 2 + 1, none⟩ (.slice none 0 0)) { s with L := s.L.set k (s.l k).tail, H := s.H.set k [] } (upd vl k v) (upd R (k + 2) (.slice none 0 0)) := by
  have hH : ∀ j, (s.H.set k []).getD j [] = if j = k then [] else s.h j := fun j => getD_set_ite _ _ _ _ _ (by rw [h.good.lenH]; exact hk)
  have hL : ∀ j, (s.L.set k (s.l k).tail).getD j [] = if j = k then (s.l k).tail else s.l j := fun j => getD_set_ite _ _ _ _ _ (by rw [h.good.lenL]; exact hk)
  have r1 := h.r.put (i := k + 2) (by omega) (w' := w) (row := none) ⟨rfl, rfl, rfl, Nat.le_refl _, fun _ _ _ => rfl⟩ (.inl rfl) (.slice none 0 0) (X' := rowL { s with L := s.L.set k (s.l k).tail, H := s.H.set k [] })
    (by show Own .i64 w W.heap.size 3 (.slice none 0 0) ((s.H.set k []).getD k []); rw [hH, if_pos rfl]; exact Own.nil _ _ _ _)
    (fun j hj => by
      match j with
      | 0 => rfl
      | 1 => rfl
      | j + 2 => show (s.H.set k []).getD j [] = s.h j; rw [hH, if_neg (by omega)])
    h.c.hG h.c.hJ (.inl rfl)
  refine ⟨(h.c.putL hk v).put (i := k + 2) (by omega) (.slice none 0 0), (r1.setc (a := ⟨Jb, k * 2, none⟩) (.inr rfl) v).setc (a := ⟨Jb, k * 2 + 1, none⟩) (.inr rfl) (.slice none 0 0), fun i hi => ?_, (h.bel.setCell (p := ⟨Jb, k * 2, none⟩) h.hB.2 v).setCell (p := ⟨Jb, k * 2 + 1, none⟩) h.hB.2 (.slice none 0 0), h.hB, h.n64,
    ⟨h.good.b, by rw [List.length_set]; exact h.good.lenL, by rw [List.length_set]; exact h.good.lenH, fun j => ?_, fun j => ?_, h.good.d, fun j => ?_⟩⟩
  · show Ps W (upd vl k v i) ((s.L.set k (s.l k).tail).getD i [])
    rw [hL]
    by_cases e : i = k
    · subst e; rw [upd_same, if_pos rfl]; exact hv
    · rw [upd_ne _ _ e, if_neg e]; exact h.l i hi
  · show ∀ p ∈ (s.L.set k (s.l k).tail).getD j [], I p.1 ∧ I p.2
    rw [hL]
    split
    · exact fun p hp => h.good.l k p (List.mem_of_mem_tail hp)
    · exact h.good.l j
  · show (∀ z ∈ (s.H.set k []).getD j [], I z) ∧ ((s.H.set k []).getD j []).length ≤ 2
    rw [hH]
    split
    · exact ⟨fun z hz => by simp at hz, by simp⟩
    · exact h.good.h j
  · show (s.L.set k (s.l k).tail).getD j [] = [] → (s.H.set k []).getD j [] = []
    rw [hL, hH]
    split
    · exact fun _ => rfl
    · exact h.good.nz j

/-- And whose it was stands behind. -/
theorem Gm.did {W : World} {G Jb n : Nat} {o : Bool} {w w1 w2 : World} {s : St} {vl R : Nat → Value} (h : Gm W G Jb n o w s vl R) (x : Int) (hx : I x) (hb1 : Below w.heap.size w w1)
    (v : Value) (hO : Own .i64 w2 W.heap.size 3 v (s.D ++ [x])) (hg : w1.grownBy w2 (R 1).ownBlock) (hloc : v.ownBlock = (R 1).ownBlock ∨ ∃ r, v.ownBlock = some r ∧ w1.heap.size ≤ r) :
    Gm W G Jb n o (w2.setCell ⟨G, 2, none⟩ v) { s with D := s.D ++ [x] } vl (upd R 1 v) := by
  have h1 := h.grow hb1
  have c2 := h1.c.grown hg (h.r.away 1 (by omega)).1 (h.r.away 1 (by omega)).2
  have r1 := h1.r.put (i := 1) (by omega) hg (.inr rfl) v (X' := rowL { s with D := s.D ++ [x] }) hO (fun j hj => by
    match j with
    | 0 => rfl
    | 1 => exact absurd rfl hj
    | j + 2 => rfl) h1.c.hG h1.c.hJ (.inr hloc)
  exact ⟨c2.put (i := 1) (by omega) v, r1.setc (a := ⟨G, 2, none⟩) (.inl rfl) v, h.l, (h1.bel.grown hg h1.bel.size (fun r hr => (h.r.own 1 (by omega)).lt r hr)).setCell (p := ⟨G, 2, none⟩) h.hB.1 v, h.hB, h.n64,
    ⟨h.good.b, h.good.lenL, h.good.lenH, h.good.l, h.good.h, fun z hz => by
      rcases List.mem_append.1 hz with e | e
      · exact h.good.d z e
      · simp at e; rw [e]; exact hx, h.good.nz⟩⟩
end Go.Proofs.Ythbabhmpkniliaa
