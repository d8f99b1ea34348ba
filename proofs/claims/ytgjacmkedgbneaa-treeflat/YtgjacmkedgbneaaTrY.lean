/-
  Plain facts on trees: painting and turning at a place; a node that comes.
-/
import Derived.Test.YtgjacmkedgbneaaTrZ
namespace Go.Proofs.Ytgjacmkedgbneaa
namespace Tr
open Wd Tn Ky

theorem nd_put {t : T} {i : Int} (hi : t.has i) (n : N) {j : Int} (hj : 0 ≤ j) : (t.put i n).nd j = if j = i then n else t.nd j := by
  by_cases h : j = i
  · subst h; rw [if_pos rfl, nd_put_same hi]
  · rw [if_neg h, nd_put_other hi.1 hj (fun e => h e.symm)]
theorem nd_setKid {t : T} {u : Int} (hu : t.ok u) (s : Bool) (y : Int) {j : Int} (hj : 0 ≤ j) : (t.setKid u s y).nd j = if j = u then (t.nd j).setKid s y else t.nd j := by
  unfold T.setKid
  rcases hu with rfl | hu
  · rw [if_pos rfl, if_neg (by omega)]; rfl
  · rw [if_neg (has_ne hu), nd_put hu _ hj]
    by_cases h : j = u
    · subst h; rw [if_pos rfl]
    · rw [if_neg h, if_neg h]
theorem nd_setUp {t : T} {y : Int} (hy : t.ok y) (u : Int) {j : Int} (hj : 0 ≤ j) : (t.setUp y u).nd j = if j = y then (t.nd j).setUp u else t.nd j := by
  unfold T.setUp
  rcases hy with rfl | hy
  · rw [if_pos rfl, if_neg (by omega)]
  · rw [if_neg (has_ne hy), nd_put hy _ hj]
    by_cases h : j = y
    · subst h; rw [if_pos rfl]
    · rw [if_neg h, if_neg h]
theorem nd_hang {t : T} {u y : Int} (hu : t.ok u) (hy : t.ok y) (s : Bool) {j : Int} (hj : 0 ≤ j) :
    (t.hang u s y).nd j = if j = y then (if j = u then (t.nd j).setKid s y else t.nd j).setUp u else (if j = u then (t.nd j).setKid s y else t.nd j) := by
  unfold T.hang
  rw [nd_setUp ((ok_len (setKid_len _ _ _ _)).2 hy) u hj, nd_setKid hu s y hj]
theorem root_hang (t : T) (u : Int) (s : Bool) (y : Int) : (t.hang u s y).root = if u = -1 then y else t.root := by
  unfold T.hang T.setUp T.setKid
  split <;> split <;> rfl
theorem nodeOf_kid (s c : Bool) (v x o u : Int) : (nodeOf s c v x o u).kid s = x ∧ (nodeOf s c v x o u).kid (!s) = o ∧ (nodeOf s c v x o u).u = u ∧ (nodeOf s c v x o u).red = c := by
  cases s <;> exact ⟨rfl, rfl, rfl, rfl⟩
theorem nodeOf_setKid (s c : Bool) (v x o u y : Int) : (nodeOf s c v x o u).setKid s y = nodeOf s c v y o u ∧ (nodeOf s c v x o u).setKid (!s) y = nodeOf s c v x y u ∧ (nodeOf s c v x o u).setUp y = nodeOf s c v x o y ∧ ∀ b, (nodeOf s c v x o u).setRed b = nodeOf s b v x o u := by
  cases s <;> exact ⟨rfl, rfl, rfl, fun _ => rfl⟩
theorem rid_mem (b : B) : b.rid = -1 ∨ b.rid ∈ b.ids := by
  cases b with
  | L => exact .inl rfl
  | N i c v k => exact .inr (by simp [B.rid, B.ids])
theorem upOf_mem (fs : List F) : upOf fs = -1 ∨ upOf fs ∈ idsC fs := by
  cases fs with
  | nil => exact .inl rfl
  | cons f fs => exact .inr (by simp [upOf, idsC])
theorem SubC.ok {t : T} {fs : List F} {x : Int} (h : SubC t fs x) : t.ok (upOf fs) := by
  cases fs with
  | nil => exact .inl rfl
  | cons f fs => exact .inr h.1
theorem SubC.has {t : T} : {fs : List F} → {x : Int} → SubC t fs x → ∀ i ∈ idsC fs, t.has i
  | [], _, _, i, hi => by cases hi
  | f :: fs, x, h, i, hi => by
    simp only [idsC, List.mem_cons, List.mem_append] at hi
    rcases hi with rfl | hi | hi
    · exact h.1
    · exact (h.2.2.1.has i hi).1
    · exact SubC.has h.2.2.2 i hi
theorem Z.has {t : T} {b : B} {fs : List F} (h : Z t b fs) : ∀ i, i ∈ b.ids ∨ i ∈ idsC fs → t.has i := fun i hi => hi.elim (fun hi => (h.sub.has i hi).1) (h.ctx.has i)

/-- The root of what stands at the place is painted. -/
theorem Z.paint {t : T} {s : Bool} {i : Int} {c : Bool} {v : Int} {x o : B} {fs : List F} (h : Z t (bn s i c v x o) fs) (c' : Bool) : Z (t.paint i c') (bn s i c' v x o) fs := by
  obtain ⟨h1, h2, h3, h4⟩ := (Sub_bn ..).1 h.sub
  have hl : (t.paint i c').ns.length = t.ns.length := paint_len _ _ _
  have hn := (((ids_bn s i c v x o).append_right (idsC fs)).nodup_iff).1 h.nod
  rw [List.append_assoc, List.cons_append, List.nodup_append] at hn
  obtain ⟨n1, n2, n3⟩ := hn
  obtain ⟨n4, n5⟩ := List.nodup_cons.1 n2
  have e : ∀ j, t.has j → j ≠ i → (t.paint i c').nd j = t.nd j := fun j hj hne => by
    show (t.put i _).nd j = _
    rw [nd_put h1 _ hj.1, if_neg hne]
  refine ⟨by rw [hl]; exact h.len, (Sub_bn ..).2 ⟨(has_len hl).2 h1, ?_, Sub.congr hl (fun j hj => e j (h3.has j hj).1 (fun q => n3 j hj i (by simp) q)) h3, Sub.congr hl (fun j hj => e j (h4.has j hj).1 (fun q => n4 (by rw [← q]; exact List.mem_append.2 (.inl hj)))) h4⟩,
    SubC.congr hl rfl (fun j hj => e j (h.ctx.has j hj) (fun q => n4 (by rw [← q]; exact List.mem_append.2 (.inr hj)))) h.ctx, h.nod, fun j hj m1 m2 => ?_⟩
  · show (t.put i _).nd i = _
    rw [nd_put h1 _ h1.1, if_pos rfl, h2]
    exact (nodeOf_setKid s c v x.rid o.rid (upOf fs) 0).2.2.2 c'
  · have hj' := (has_len hl).1 hj
    have hji : j ≠ i := fun q => m1 (by rw [q]; simp [bn, B.ids])
    rw [e j hj' hji]
    exact h.rest j hj' m1 m2

set_option maxHeartbeats 1000000 in
/-- What stands at the place is turned. -/
theorem Z.turn {t : T} {s : Bool} {x : Int} {c : Bool} {v : Int} {y : Int} {c' : Bool} {v' : Int} {A M D : B} {fs : List F} (h : Z t (bn s x c v A (bn s y c' v' M D)) fs) :
    TurnOk t x s ∧ Z (t.turn x s) (bn s y c' v' (bn s x c v A M) D) fs := by
  obtain ⟨h1, h2, h3, h4⟩ := (Sub_bn ..).1 h.sub
  obtain ⟨k1, k2, k3, k4⟩ := (Sub_bn ..).1 h4
  have hp : ((bn s x c v A (bn s y c' v' M D)).ids ++ idsC fs).Perm (A.ids ++ (x :: (M.ids ++ (y :: (D.ids ++ idsC fs))))) := by
    refine ((ids_bn s x c v A _).append_right _).trans ?_
    rw [List.append_assoc, List.cons_append]
    refine List.Perm.append_left _ (List.Perm.cons _ ?_)
    refine ((ids_bn s y c' v' M D).append_right _).trans ?_
    rw [List.append_assoc, List.cons_append]
  have hp' : ((bn s y c' v' (bn s x c v A M) D).ids ++ idsC fs).Perm (A.ids ++ (x :: (M.ids ++ (y :: (D.ids ++ idsC fs))))) := by
    refine ((ids_bn s y c' v' _ D).append_right _).trans ?_
    refine (((ids_bn s x c v A M).append_right _).append_right _).trans ?_
    simp
  have hnod := hp.nodup_iff.1 h.nod
  have hn := hnod
  rw [List.nodup_append] at hn
  obtain ⟨nA, n2, n3⟩ := hn
  obtain ⟨n4, n5⟩ := List.nodup_cons.1 n2
  rw [List.nodup_append] at n5
  obtain ⟨nM, n6, n7⟩ := n5
  obtain ⟨n8, n9⟩ := List.nodup_cons.1 n6
  rw [List.nodup_append] at n9
  obtain ⟨nD, nC, n10⟩ := n9
  have hu := h.ctx.ok
  obtain ⟨m, hm⟩ : ∃ m, M.rid = m := ⟨_, rfl⟩
  obtain ⟨u, hu0⟩ : ∃ u, upOf fs = u := ⟨_, rfl⟩
  have kk := nodeOf_kid s c v A.rid y (upOf fs)
  have kk' := nodeOf_kid s c' v' M.rid D.rid x
  have ek : t.kid x (!s) = y := by unfold T.kid; rw [h2]; exact kk.2.1
  have eu : t.up x = u := by unfold T.up; rw [h2, ← hu0]; exact kk.2.2.1
  have em : t.kid y s = m := by unfold T.kid; rw [k2, kk'.1, hm]
  have hmo : t.ok m := by rw [← hm]; exact k3.ok
  rw [hu0] at hu
  have hxy : x ≠ y := fun e => n4 (by rw [e]; simp)
  have hmm : m = -1 ∨ m ∈ M.ids := by rw [← hm]; exact rid_mem M
  have huu : u = -1 ∨ u ∈ idsC fs := by rw [← hu0]; exact upOf_mem fs
  have hx0 := h1.1
  have hy0 := k1.1
  have hxm : x ≠ m := fun e => hmm.elim (fun q => by omega) (fun q => n4 (by rw [e]; exact List.mem_append.2 (.inl q)))
  have hym : y ≠ m := fun e => hmm.elim (fun q => by omega) (fun q => n7 m q y (by simp) e.symm)
  have hxu : x ≠ u := fun e => huu.elim (fun q => by omega) (fun q => n4 (by rw [e]; simp [q]))
  have hyu : y ≠ u := fun e => huu.elim (fun q => by omega) (fun q => n8 (by rw [e]; simp [q]))
  refine ⟨⟨h1, by rw [eu]; exact hu, by rw [ek]; exact k1, by rw [ek, em]; exact hmo⟩, ?_⟩
  obtain ⟨a, ha⟩ : ∃ a, t.side x = a := ⟨_, rfl⟩
  have et : t.turn x s = ((t.hang x (!s) m).hang u a y).hang y s x := by unfold T.turn; rw [ek, em, eu, ha]
  rw [et]
  have l1 : (t.hang x (!s) m).ns.length = t.ns.length := hang_len _ _ _ _
  have l2 : ((t.hang x (!s) m).hang u a y).ns.length = t.ns.length := (hang_len _ _ _ _).trans l1
  have l3 : (((t.hang x (!s) m).hang u a y).hang y s x).ns.length = t.ns.length := (hang_len _ _ _ _).trans l2
  have nd1 : ∀ {j : Int}, 0 ≤ j → (t.hang x (!s) m).nd j = _ := fun hj => nd_hang (.inr h1) hmo (!s) hj
  have nd2 : ∀ {j : Int}, 0 ≤ j → ((t.hang x (!s) m).hang u a y).nd j = _ := fun hj => nd_hang ((ok_len l1).2 hu) (.inr ((has_len l1).2 k1)) a hj
  have nd3 : ∀ {j : Int}, 0 ≤ j → (((t.hang x (!s) m).hang u a y).hang y s x).nd j = _ := fun hj => nd_hang (.inr ((has_len l2).2 k1)) (.inr ((has_len l2).2 h1)) s hj
  have other : ∀ j, 0 ≤ j → j ≠ x → j ≠ y → j ≠ m → j ≠ u → (((t.hang x (!s) m).hang u a y).hang y s x).nd j = t.nd j := fun j hj e1 e2 e3 e4 => by
    rw [nd3 hj, if_neg e1, if_neg e2, nd2 hj, if_neg e2, if_neg e4, nd1 hj, if_neg e3, if_neg e1]
  have ex : (((t.hang x (!s) m).hang u a y).hang y s x).nd x = nodeOf s c v A.rid m y := by
    rw [nd3 hx0, if_pos rfl, if_neg hxy, nd2 hx0, if_neg hxy, if_neg hxu, nd1 hx0, if_neg hxm, if_pos rfl, h2]
    have := nodeOf_setKid s c v A.rid y (upOf fs) m
    rw [show (bn s y c' v' M D).rid = y from rfl, this.2.1]
    exact (nodeOf_setKid s c v A.rid m (upOf fs) y).2.2.1
  have ey : (((t.hang x (!s) m).hang u a y).hang y s x).nd y = nodeOf s c' v' x D.rid u := by
    rw [nd3 hy0, if_neg (fun e => hxy e.symm), if_pos rfl, nd2 hy0, if_pos rfl, if_neg hyu, nd1 hy0, if_neg hym, if_neg (fun e => hxy e.symm), k2]
    rw [(nodeOf_setKid s c' v' M.rid D.rid x u).2.2.1]
    exact (nodeOf_setKid s c' v' M.rid D.rid u x).1
  have emm : m ≠ -1 → (((t.hang x (!s) m).hang u a y).hang y s x).nd m = (t.nd m).setUp x := fun hne => by
    have hm0 : 0 ≤ m := (hmo.resolve_left hne).1
    have hmu : m ≠ u := fun e => by
      have q := hmm.resolve_left hne
      rcases huu with w | w
      · exact hne (e.trans w)
      · exact n7 m q u (by simp [w]) e
    rw [nd3 hm0, if_neg (fun e => hxm e.symm), if_neg (fun e => hym e.symm), nd2 hm0, if_neg (fun e => hym e.symm), if_neg hmu, nd1 hm0, if_pos rfl, if_neg (fun e => hxm e.symm)]
  have euu : u ≠ -1 → (((t.hang x (!s) m).hang u a y).hang y s x).nd u = (t.nd u).setKid a y := fun hne => by
    have hu0' : 0 ≤ u := (hu.resolve_left hne).1
    have hmu : u ≠ m := fun e => by
      have w := huu.resolve_left hne
      rcases hmm with q | q
      · exact hne (e.trans q)
      · exact n7 m q u (by simp [w]) e.symm
    rw [nd3 hu0', if_neg (fun e => hxu e.symm), if_neg (fun e => hyu e.symm), nd2 hu0', if_neg (fun e => hyu e.symm), if_pos rfl, nd1 hu0', if_neg hmu, if_neg (fun e => hxu e.symm)]
  have eroot : (((t.hang x (!s) m).hang u a y).hang y s x).root = if u = -1 then y else t.root := by
    rw [root_hang, if_neg (by omega), root_hang, root_hang, if_neg (by omega : x ≠ -1)]
  generalize ((t.hang x (!s) m).hang u a y).hang y s x = t' at l3 other ex ey emm euu eroot
  have inA : ∀ j ∈ A.ids, t'.nd j = t.nd j := fun j hj => by
    have q := fun b hb => n3 j hj b hb
    exact other j (h3.has j hj).1.1 (q x (by simp)) (q y (by simp)) (fun e => hmm.elim (fun w => by have := (h3.has j hj).1.1; omega) (fun w => q m (by simp [w]) e)) (fun e => huu.elim (fun w => by have := (h3.has j hj).1.1; omega) (fun w => q u (by simp [w]) e))
  have inM : ∀ j ∈ M.ids, j ≠ M.rid → t'.nd j = t.nd j := fun j hj hne => by
    have q := fun b hb => n7 j hj b hb
    rw [hm] at hne
    exact other j (k3.has j hj).1.1 (fun e => n4 (by rw [← e]; exact List.mem_append.2 (.inl hj))) (q y (by simp)) hne (fun e => huu.elim (fun w => by have := (k3.has j hj).1.1; omega) (fun w => q u (by simp [w]) e))
  have inD : ∀ j ∈ D.ids, t'.nd j = t.nd j := fun j hj => by
    refine other j (k4.has j hj).1.1 (fun e => n4 (by rw [← e]; simp [hj])) (fun e => n8 (by rw [← e]; simp [hj])) (fun e => ?_) (fun e => ?_)
    · rcases hmm with w | w
      · have := (k4.has j hj).1.1; omega
      · exact n7 m w j (by simp [hj]) e.symm
    · rcases huu with w | w
      · have := (k4.has j hj).1.1; omega
      · exact n10 j hj u w e
  have inC : ∀ j ∈ idsC fs, j ≠ upOf fs → t'.nd j = t.nd j := fun j hj hne => by
    rw [hu0] at hne
    have j0 := (h.ctx.has j hj).1
    refine other j j0 (fun e => n4 (by rw [← e]; simp [hj])) (fun e => n8 (by rw [← e]; simp [hj])) (fun e => ?_) hne
    rcases hmm with w | w
    · omega
    · exact n7 m w j (by simp [hj]) e.symm
  refine ⟨by rw [l3]; exact h.len, (Sub_bn ..).2 ⟨(has_len l3).2 k1, by rw [ey, hu0]; rfl, (Sub_bn ..).2 ⟨(has_len l3).2 h1, by rw [ex, hm], h3.congr l3 inA, ?_⟩, k4.congr l3 inD⟩, ?_, hp'.nodup_iff.2 hnod, fun j hj m1 m2 => ?_⟩
  · exact k3.congrUp l3 nM inM (fun hne => by rw [hm] at hne ⊢; exact emm hne)
  · refine SubC.put l3 nC inC (by rw [hu0]; exact eroot) (fun f gs e => ?_) h.ctx
    subst e
    have hz := h.side (show (bn s x c v A (bn s y c' v' M D)).rid ≠ -1 from has_ne h1)
    have hfi : u = f.i := hu0.symm
    have has' : a = f.s := ha.symm.trans hz.2.1
    have hne : u ≠ -1 := by rw [hfi]; exact has_ne h.ctx.1
    have := euu hne
    rw [hfi, has'] at this
    exact this
  · have hj' := (has_len l3).1 hj
    have hnm : j ∉ A.ids ++ (x :: (M.ids ++ (y :: (D.ids ++ idsC fs)))) := fun e => by
      have := hp'.mem_iff.2 e
      rcases List.mem_append.1 this with w | w
      · exact m1 w
      · exact m2 w
    simp only [List.mem_append, List.mem_cons, not_or] at hnm
    obtain ⟨w1, w2, w3, w4, w5, w6⟩ := hnm
    have j0 := hj'.1
    rw [other j j0 w2 w4 (fun e => hmm.elim (fun q => by omega) (fun q => w3 (by rw [e]; exact q))) (fun e => huu.elim (fun q => by omega) (fun q => w6 (by rw [e]; exact q)))]
    have hold : j ∉ (bn s x c v A (bn s y c' v' M D)).ids ++ idsC fs := fun e => by
      have := hp.mem_iff.1 e
      simp only [List.mem_append, List.mem_cons] at this
      rcases this with q | q | q | q | q | q
      · exact w1 q
      · exact w2 q
      · exact w3 q
      · exact w4 q
      · exact w5 q
      · exact w6 q
    exact h.rest j hj' (fun e => hold (List.mem_append.2 (.inl e))) (fun e => hold (List.mem_append.2 (.inr e)))
end Tr
end Go.Proofs.Ytgjacmkedgbneaa
