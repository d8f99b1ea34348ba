/-
  Plain facts on trees: a tree seen from one of its places; what is painted, hung and turned there.
  Plain facts on trees: painting and turning at a place; a node that comes.
  Plain facts on trees: colors; a right tree is mended to a right one, with the same keys.
  Plain facts on trees: mending comes to a right tree.
  Plain facts on trees: what Insert tells of a right tree is right, with one key more.
  Plain facts on trees: filling a place comes to a right tree.
  Plain facts on trees: a node is taken out; what Delete tells of a right tree is right, with one key less.
  Plain facts on trees: what Delete tells of a right tree is right, with one key less.
-/
import Derived.Test.YtgjacmkedgbneaaTrX
import Derived.Test.YtgjacmkedgbneaaTrN
import Derived.Test.YtgjacmkedgbneaaTrO
namespace Go.Proofs.Ytgjacmkedgbneaa
namespace Tr
open Wd Tn Ky

/-- A node by its sides: x on the side s, o on the other. -/
def bn (s : Bool) (i : Int) (c : Bool) (v : Int) (x o : B) : B := .N i c v fun b => if b = s then x else o
theorem bn_swap (s : Bool) (i : Int) (c : Bool) (v : Int) (x o : B) : bn s i c v x o = bn (!s) i c v o x := by
  unfold bn
  congr 1
  funext b
  cases b <;> cases s <;> rfl
theorem bn_eta (s : Bool) (i : Int) (c : Bool) (v : Int) (k : Bool → B) : B.N i c v k = bn s i c v (k s) (k (!s)) := by
  unfold bn
  congr 1
  funext b
  cases b <;> cases s <;> rfl
/-- A step of the way down to a place: on which side of which node, and the other child. -/
structure F where
  s : Bool
  i : Int
  c : Bool
  v : Int
  o : B
def F.put (f : F) (x : B) : B := bn f.s f.i f.c f.v x f.o
def plug : B → List F → B
  | b, [] => b
  | b, f :: fs => plug (f.put b) fs
def upOf : List F → Int
  | [] => -1
  | f :: _ => f.i
def idsC : List F → List Int
  | [] => []
  | f :: fs => f.i :: (f.o.ids ++ idsC fs)
/-- What a node by its sides is in memory. -/
def nodeOf (s c : Bool) (v x o u : Int) : N := ⟨true, c, v, if s then o else x, if s then x else o, u⟩
def SubC (t : T) : List F → Int → Prop
  | [], x => t.root = x
  | f :: fs, x => t.has f.i ∧ t.nd f.i = nodeOf f.s f.c f.v x f.o.rid (upOf fs) ∧ Sub t f.o f.i ∧ SubC t fs f.i
theorem Sub_bn (t : T) (s : Bool) (i : Int) (c : Bool) (v : Int) (x o : B) (u : Int) : Sub t (bn s i c v x o) u ↔ t.has i ∧ t.nd i = nodeOf s c v x.rid o.rid u ∧ Sub t x i ∧ Sub t o i := by
  cases s
  · simp [bn, Sub, nodeOf]
  · simp [bn, Sub, nodeOf, and_comm]
theorem ids_bn (s : Bool) (i : Int) (c : Bool) (v : Int) (x o : B) : (bn s i c v x o).ids.Perm (x.ids ++ i :: o.ids) := by
  cases s
  · simp [bn, B.ids]
  · simp only [bn, B.ids, if_true, Bool.false_eq_true, if_false]
    refine List.perm_append_comm.trans ?_
    simp only [List.cons_append]
    exact (List.perm_middle.symm)
/-- All of it, seen from a place. -/
structure Z (t : T) (b : B) (fs : List F) : Prop where
  len : t.ns.length ≤ 64
  sub : Sub t b (upOf fs)
  ctx : SubC t fs b.rid
  nod : (b.ids ++ idsC fs).Nodup
  rest : ∀ i, t.has i → i ∉ b.ids → i ∉ idsC fs → t.nd i = nE
theorem Z_whole (t : T) (b : B) : Z t b [] ↔ Whole t b :=
  ⟨fun h => ⟨h.len, h.ctx, h.sub, by simpa [idsC] using h.nod, fun i hi hn => h.rest i hi hn (by simp [idsC])⟩, fun h => ⟨h.len, h.sub, h.root, by simpa [idsC] using h.nod, fun i hi hn _ => h.rest i hi hn⟩⟩
theorem Z_step (t : T) (b : B) (f : F) (fs : List F) : Z t b (f :: fs) ↔ Z t (f.put b) fs := by
  have hp : (b.ids ++ idsC (f :: fs)).Perm ((f.put b).ids ++ idsC fs) := by
    have h1 := (ids_bn f.s f.i f.c f.v b f.o).symm.append_right (idsC fs)
    have e : b.ids ++ idsC (f :: fs) = b.ids ++ f.i :: f.o.ids ++ idsC fs := by simp [idsC]
    rw [e]
    exact h1
  have hm : ∀ i, (i ∉ (f.put b).ids ∧ i ∉ idsC fs) ↔ (i ∉ b.ids ∧ i ∉ idsC (f :: fs)) := fun i => by
    have := hp.mem_iff (a := i)
    rw [List.mem_append, List.mem_append] at this
    rw [← not_or, ← not_or, this]
  constructor
  · intro h
    obtain ⟨h1, h2, h3, h4⟩ := h.ctx
    exact ⟨h.len, (Sub_bn ..).2 ⟨h1, h2, h.sub, h3⟩, h4, hp.nodup_iff.1 h.nod, fun i hi n1 n2 => h.rest i hi ((hm i).1 ⟨n1, n2⟩).1 ((hm i).1 ⟨n1, n2⟩).2⟩
  · intro h
    obtain ⟨h1, h2, h3, h4⟩ := (Sub_bn ..).1 h.sub
    exact ⟨h.len, h3, ⟨h1, h2, h4, h.ctx⟩, hp.nodup_iff.2 h.nod, fun i hi n1 n2 => h.rest i hi ((hm i).2 ⟨n1, n2⟩).1 ((hm i).2 ⟨n1, n2⟩).2⟩
theorem Z_plug (t : T) (b : B) (fs : List F) : Z t b fs ↔ Whole t (plug b fs) := by
  induction fs generalizing b with
  | nil => exact Z_whole t b
  | cons f fs ih => rw [Z_step, ih]; rfl

/-! ### What a change elsewhere leaves -/
theorem Sub.congr {t t' : T} (hl : t'.ns.length = t.ns.length) : {b : B} → {u : Int} → (∀ j ∈ b.ids, t'.nd j = t.nd j) → Sub t b u → Sub t' b u
  | .L, _, _, _ => trivial
  | .N i c v k, u, hc, h => by
    simp only [B.ids, List.mem_append, List.mem_cons] at hc
    exact ⟨(has_len hl).2 h.1, (hc i (.inr (.inl rfl))).trans h.2.1, Sub.congr hl (fun j hj => hc j (.inl hj)) h.2.2.1, Sub.congr hl (fun j hj => hc j (.inr (.inr hj))) h.2.2.2⟩
/-- Only the root has another Up. -/
theorem Sub.congrUp {t t' : T} (hl : t'.ns.length = t.ns.length) {b : B} {u u' : Int} (hd : b.ids.Nodup) (hc : ∀ j ∈ b.ids, j ≠ b.rid → t'.nd j = t.nd j) (hr : b.rid ≠ -1 → t'.nd b.rid = (t.nd b.rid).setUp u') (h : Sub t b u) : Sub t' b u' := by
  cases b with
  | L => trivial
  | N i c v k =>
    simp only [B.ids] at hd
    rw [List.nodup_append] at hd
    obtain ⟨_, d2, d3⟩ := hd
    obtain ⟨d4, _⟩ := List.nodup_cons.1 d2
    simp only [B.ids, List.mem_append, List.mem_cons] at hc
    have hi : i ≠ -1 := by have := h.1; unfold T.has at this; omega
    refine ⟨(has_len hl).2 h.1, ?_, Sub.congr hl (fun j hj => hc j (.inl hj) (fun e => d3 j hj i (by simp) e)) h.2.2.1, Sub.congr hl (fun j hj => hc j (.inr (.inr hj)) (fun e => d4 (by rw [B.rid] at e; exact e ▸ hj))) h.2.2.2⟩
    have := hr hi
    rw [show (B.N i c v k).rid = i from rfl, h.2.1] at this
    exact this
theorem SubC.congr {t t' : T} (hl : t'.ns.length = t.ns.length) (hr : t'.root = t.root) : {fs : List F} → {x : Int} → (∀ j ∈ idsC fs, t'.nd j = t.nd j) → SubC t fs x → SubC t' fs x
  | [], _, _, h => hr.trans h
  | f :: fs, x, hc, h => by
    simp only [idsC, List.mem_cons, List.mem_append] at hc
    exact ⟨(has_len hl).2 h.1, (hc f.i (.inl rfl)).trans h.2.1, Sub.congr hl (fun j hj => hc j (.inr (.inl hj))) h.2.2.1, SubC.congr hl hr (fun j hj => hc j (.inr (.inr hj))) h.2.2.2⟩
/-- Another one stands at the place. -/
theorem SubC.put {t t' : T} (hl : t'.ns.length = t.ns.length) {fs : List F} {x y : Int} (hd : (idsC fs).Nodup) (hc : ∀ j ∈ idsC fs, j ≠ upOf fs → t'.nd j = t.nd j)
    (hr : t'.root = if upOf fs = -1 then y else t.root) (hu : ∀ f gs, fs = f :: gs → t'.nd f.i = (t.nd f.i).setKid f.s y) (h : SubC t fs x) : SubC t' fs y := by
  cases fs with
  | nil => simpa [upOf, SubC] using hr
  | cons f fs =>
    simp only [idsC] at hd
    obtain ⟨d1, d2⟩ := List.nodup_cons.1 hd
    have hi : f.i ≠ -1 := by have := h.1; unfold T.has at this; omega
    rw [if_neg (show upOf (f :: fs) ≠ -1 from hi)] at hr
    simp only [idsC, List.mem_cons, List.mem_append, upOf] at hc
    refine ⟨(has_len hl).2 h.1, ?_, Sub.congr hl (fun j hj => hc j (.inr (.inl hj)) (fun e => d1 (List.mem_append.2 (.inl (e ▸ hj))))) h.2.2.1, SubC.congr hl hr (fun j hj => hc j (.inr (.inr hj)) (fun e => d1 (List.mem_append.2 (.inr (e ▸ hj))))) h.2.2.2⟩
    rw [hu f fs rfl, h.2.1]
    unfold N.setKid nodeOf
    cases f.s <;> rfl

/-! ### What a place tells -/
theorem Z.side {t : T} {b : B} {f : F} {fs : List F} (h : Z t b (f :: fs)) (hb : b.rid ≠ -1) : t.up b.rid = f.i ∧ t.side b.rid = f.s ∧ t.has b.rid := by
  have hd := h.nod
  cases b with
  | L => exact absurd rfl hb
  | N i c v k =>
    obtain ⟨s1, s2, -⟩ := h.sub
    obtain ⟨c1, c2, -⟩ := h.ctx
    have e1 : t.up i = f.i := by unfold T.up; rw [s2]; rfl
    have hfi : f.i ≠ -1 := by unfold T.has at c1; omega
    refine ⟨e1, ?_, s1⟩
    show t.side i = f.s
    unfold T.side
    rw [e1, decide_eq_true hfi, Bool.true_and]
    have e2 : t.kid f.i true = if f.s then i else f.o.rid := by unfold T.kid N.kid; rw [c2]; rfl
    rw [e2]
    cases hs : f.s
    · simp only [Bool.false_eq_true, if_false, decide_eq_false_iff_not]
      intro e
      cases ho : f.o with
      | L => rw [ho] at e; simp only [B.rid] at e; unfold T.has at s1; omega
      | N j c' v' k' =>
        rw [ho] at e
        simp only [B.rid] at e
        subst e
        rw [List.nodup_append] at hd
        refine hd.2.2 j ?_ j ?_ rfl
        · simp [B.ids]
        · simp [idsC, ho, B.ids]
    · simp
theorem Z.top {t : T} {b : B} (h : Z t b []) : t.root = b.rid ∧ (b.rid ≠ -1 → t.up b.rid = -1) := by
  refine ⟨h.ctx, fun hb => ?_⟩
  cases b with
  | L => exact absurd rfl hb
  | N i c v k => obtain ⟨-, s2, -⟩ := h.sub; show (t.nd i).u = -1; rw [s2]; rfl
end Tr
end Go.Proofs.Ytgjacmkedgbneaa

namespace Go.Proofs.Ytgjacmkedgbneaa
namespace Tr
open Wd Tn Ky

theorem nd_put {t : T} {i : Int} (hi : t.has i) (n : N) {j : Int} (hj : 0 ≤ j) : (t.put i n).nd j = if j = i then n else t.nd j := by
  by_cases h : j = i
  · subst h; rw [if_pos rfl, nd_put_same hi]
  · rw [if_neg h, nd_put_other hi.1 hj (fun e => h e.symm)]
theorem nd_setKid {t : T} {u : Int} (hu : t.ok u) (s : Bool) (y : Int) {j : Int} (hj : 0 ≤ j) : (t.setKid u s y).nd j = if j = u then (t.nd j).setKid s y else t.nd j := by
  unfold T.setKid
  rcases hu with rfl | hu
  · rw [if_pos rfl, if_neg (by omega)]; rfl
  · rw [if_neg (has_ne hu), nd_put hu _ hj]
    by_cases h : j = u
    · subst h; rw [if_pos rfl]
    · rw [if_neg h, if_neg h]
theorem nd_setUp {t : T} {y : Int} (hy : t.ok y) (u : Int) {j : Int} (hj : 0 ≤ j) : (t.setUp y u).nd j = if j = y then (t.nd j).setUp u else t.nd j := by
  unfold T.setUp
  rcases hy with rfl | hy
  · rw [if_pos rfl, if_neg (by omega)]
  · rw [if_neg (has_ne hy), nd_put hy _ hj]
    by_cases h : j = y
    · subst h; rw [if_pos rfl]
    · rw [if_neg h, if_neg h]
theorem nd_hang {t : T} {u y : Int} (hu : t.ok u) (hy : t.ok y) (s : Bool) {j : Int} (hj : 0 ≤ j) :
    (t.hang u s y).nd j = if j = y then (if j = u then (t.nd j).setKid s y else t.nd j).setUp u else (if j = u then (t.nd j).setKid s y else t.nd j) := by
  unfold T.hang
  rw [nd_setUp ((ok_len (setKid_len _ _ _ _)).2 hy) u hj, nd_setKid hu s y hj]
theorem root_hang (t : T) (u : Int) (s : Bool) (y : Int) : (t.hang u s y).root = if u = -1 then y else t.root := by
  unfold T.hang T.setUp T.setKid
  split <;> split <;> rfl
theorem nodeOf_kid (s c : Bool) (v x o u : Int) : (nodeOf s c v x o u).kid s = x ∧ (nodeOf s c v x o u).kid (!s) = o ∧ (nodeOf s c v x o u).u = u ∧ (nodeOf s c v x o u).red = c := by
  cases s <;> exact ⟨rfl, rfl, rfl, rfl⟩
theorem nodeOf_setKid (s c : Bool) (v x o u y : Int) : (nodeOf s c v x o u).setKid s y = nodeOf s c v y o u ∧ (nodeOf s c v x o u).setKid (!s) y = nodeOf s c v x y u ∧ (nodeOf s c v x o u).setUp y = nodeOf s c v x o y ∧ ∀ b, (nodeOf s c v x o u).setRed b = nodeOf s b v x o u := by
  cases s <;> exact ⟨rfl, rfl, rfl, fun _ => rfl⟩
theorem rid_mem (b : B) : b.rid = -1 ∨ b.rid ∈ b.ids := by
  cases b with
  | L => exact .inl rfl
  | N i c v k => exact .inr (by simp [B.rid, B.ids])
theorem upOf_mem (fs : List F) : upOf fs = -1 ∨ upOf fs ∈ idsC fs := by
  cases fs with
  | nil => exact .inl rfl
  | cons f fs => exact .inr (by simp [upOf, idsC])
theorem SubC.ok {t : T} {fs : List F} {x : Int} (h : SubC t fs x) : t.ok (upOf fs) := by
  cases fs with
  | nil => exact .inl rfl
  | cons f fs => exact .inr h.1
theorem SubC.has {t : T} : {fs : List F} → {x : Int} → SubC t fs x → ∀ i ∈ idsC fs, t.has i
  | [], _, _, i, hi => by cases hi
  | f :: fs, x, h, i, hi => by
    simp only [idsC, List.mem_cons, List.mem_append] at hi
    rcases hi with rfl | hi | hi
    · exact h.1
    · exact (h.2.2.1.has i hi).1
    · exact SubC.has h.2.2.2 i hi
theorem Z.has {t : T} {b : B} {fs : List F} (h : Z t b fs) : ∀ i, i ∈ b.ids ∨ i ∈ idsC fs → t.has i := fun i hi => hi.elim (fun hi => (h.sub.has i hi).1) (h.ctx.has i)

/-- The root of what stands at the place is painted. -/
theorem Z.paint {t : T} {s : Bool} {i : Int} {c : Bool} {v : Int} {x o : B} {fs : List F} (h : Z t (bn s i c v x o) fs) (c' : Bool) : Z (t.paint i c') (bn s i c' v x o) fs := by
  obtain ⟨h1, h2, h3, h4⟩ := (Sub_bn ..).1 h.sub
  have hl : (t.paint i c').ns.length = t.ns.length := paint_len _ _ _
  have hn := (((ids_bn s i c v x o).append_right (idsC fs)).nodup_iff).1 h.nod
  rw [List.append_assoc, List.cons_append, List.nodup_append] at hn
  obtain ⟨n1, n2, n3⟩ := hn
  obtain ⟨n4, n5⟩ := List.nodup_cons.1 n2
  have e : ∀ j, t.has j → j ≠ i → (t.paint i c').nd j = t.nd j := fun j hj hne => by
    show (t.put i _).nd j = _
    rw [nd_put h1 _ hj.1, if_neg hne]
  refine ⟨by rw [hl]; exact h.len, (Sub_bn ..).2 ⟨(has_len hl).2 h1, ?_, Sub.congr hl (fun j hj => e j (h3.has j hj).1 (fun q => n3 j hj i (by simp) q)) h3, Sub.congr hl (fun j hj => e j (h4.has j hj).1 (fun q => n4 (by rw [← q]; exact List.mem_append.2 (.inl hj)))) h4⟩,
    SubC.congr hl rfl (fun j hj => e j (h.ctx.has j hj) (fun q => n4 (by rw [← q]; exact List.mem_append.2 (.inr hj)))) h.ctx, h.nod, fun j hj m1 m2 => ?_⟩
  · show (t.put i _).nd i = _
    rw [nd_put h1 _ h1.1, if_pos rfl, h2]
    exact (nodeOf_setKid s c v x.rid o.rid (upOf fs) 0).2.2.2 c'
  · have hj' := (has_len hl).1 hj
    have hji : j ≠ i := fun q => m1 (by rw [q]; simp [bn, B.ids])
    rw [e j hj' hji]
    exact h.rest j hj' m1 m2

set_option maxHeartbeats 1000000 in
/-- What stands at the place is turned. -/
theorem Z.turn {t : T} {s : Bool} {x : Int} {c : Bool} {v : Int} {y : Int} {c' : Bool} {v' : Int} {A M D : B} {fs : List F} (h : Z t (bn s x c v A (bn s y c' v' M D)) fs) :
    TurnOk t x s ∧ Z (t.turn x s) (bn s y c' v' (bn s x c v A M) D) fs := by
  obtain ⟨h1, h2, h3, h4⟩ := (Sub_bn ..).1 h.sub
  obtain ⟨k1, k2, k3, k4⟩ := (Sub_bn ..).1 h4
  have hp : ((bn s x c v A (bn s y c' v' M D)).ids ++ idsC fs).Perm (A.ids ++ (x :: (M.ids ++ (y :: (D.ids ++ idsC fs))))) := by
    refine ((ids_bn s x c v A _).append_right _).trans ?_
    rw [List.append_assoc, List.cons_append]
    refine List.Perm.append_left _ (List.Perm.cons _ ?_)
    refine ((ids_bn s y c' v' M D).append_right _).trans ?_
    rw [List.append_assoc, List.cons_append]
  have hp' : ((bn s y c' v' (bn s x c v A M) D).ids ++ idsC fs).Perm (A.ids ++ (x :: (M.ids ++ (y :: (D.ids ++ idsC fs))))) := by
    refine ((ids_bn s y c' v' _ D).append_right _).trans ?_
    refine (((ids_bn s x c v A M).append_right _).append_right _).trans ?_
    simp
  have hnod := hp.nodup_iff.1 h.nod
  have hn := hnod
  rw [List.nodup_append] at hn
  obtain ⟨nA, n2, n3⟩ := hn
  obtain ⟨n4, n5⟩ := List.nodup_cons.1 n2
  rw [List.nodup_append] at n5
  obtain ⟨nM, n6, n7⟩ := n5
  obtain ⟨n8, n9⟩ := List.nodup_cons.1 n6
  rw [List.nodup_append] at n9
  obtain ⟨nD, nC, n10⟩ := n9
  have hu := h.ctx.ok
  obtain ⟨m, hm⟩ : ∃ m, M.rid = m := ⟨_, rfl⟩
  obtain ⟨u, hu0⟩ : ∃ u, upOf fs = u := ⟨_, rfl⟩
  have kk := nodeOf_kid s c v A.rid y (upOf fs)
  have kk' := nodeOf_kid s c' v' M.rid D.rid x
  have ek : t.kid x (!s) = y := by unfold T.kid; rw [h2]; exact kk.2.1
  have eu : t.up x = u := by unfold T.up; rw [h2, ← hu0]; exact kk.2.2.1
  have em : t.kid y s = m := by unfold T.kid; rw [k2, kk'.1, hm]
  have hmo : t.ok m := by rw [← hm]; exact k3.ok
  rw [hu0] at hu
  have hxy : x ≠ y := fun e => n4 (by rw [e]; simp)
  have hmm : m = -1 ∨ m ∈ M.ids := by rw [← hm]; exact rid_mem M
  have huu : u = -1 ∨ u ∈ idsC fs := by rw [← hu0]; exact upOf_mem fs
  have hx0 := h1.1
  have hy0 := k1.1
  have hxm : x ≠ m := fun e => hmm.elim (fun q => by omega) (fun q => n4 (by rw [e]; exact List.mem_append.2 (.inl q)))
  have hym : y ≠ m := fun e => hmm.elim (fun q => by omega) (fun q => n7 m q y (by simp) e.symm)
  have hxu : x ≠ u := fun e => huu.elim (fun q => by omega) (fun q => n4 (by rw [e]; simp [q]))
  have hyu : y ≠ u := fun e => huu.elim (fun q => by omega) (fun q => n8 (by rw [e]; simp [q]))
  refine ⟨⟨h1, by rw [eu]; exact hu, by rw [ek]; exact k1, by rw [ek, em]; exact hmo⟩, ?_⟩
  obtain ⟨a, ha⟩ : ∃ a, t.side x = a := ⟨_, rfl⟩
  have et : t.turn x s = ((t.hang x (!s) m).hang u a y).hang y s x := by unfold T.turn; rw [ek, em, eu, ha]
  rw [et]
  have l1 : (t.hang x (!s) m).ns.length = t.ns.length := hang_len _ _ _ _
  have l2 : ((t.hang x (!s) m).hang u a y).ns.length = t.ns.length := (hang_len _ _ _ _).trans l1
  have l3 : (((t.hang x (!s) m).hang u a y).hang y s x).ns.length = t.ns.length := (hang_len _ _ _ _).trans l2
  have nd1 : ∀ {j : Int}, 0 ≤ j → (t.hang x (!s) m).nd j = _ := fun hj => nd_hang (.inr h1) hmo (!s) hj
  have nd2 : ∀ {j : Int}, 0 ≤ j → ((t.hang x (!s) m).hang u a y).nd j = _ := fun hj => nd_hang ((ok_len l1).2 hu) (.inr ((has_len l1).2 k1)) a hj
  have nd3 : ∀ {j : Int}, 0 ≤ j → (((t.hang x (!s) m).hang u a y).hang y s x).nd j = _ := fun hj => nd_hang (.inr ((has_len l2).2 k1)) (.inr ((has_len l2).2 h1)) s hj
  have other : ∀ j, 0 ≤ j → j ≠ x → j ≠ y → j ≠ m → j ≠ u → (((t.hang x (!s) m).hang u a y).hang y s x).nd j = t.nd j := fun j hj e1 e2 e3 e4 => by
    rw [nd3 hj, if_neg e1, if_neg e2, nd2 hj, if_neg e2, if_neg e4, nd1 hj, if_neg e3, if_neg e1]
  have ex : (((t.hang x (!s) m).hang u a y).hang y s x).nd x = nodeOf s c v A.rid m y := by
    rw [nd3 hx0, if_pos rfl, if_neg hxy, nd2 hx0, if_neg hxy, if_neg hxu, nd1 hx0, if_neg hxm, if_pos rfl, h2]
    have := nodeOf_setKid s c v A.rid y (upOf fs) m
    rw [show (bn s y c' v' M D).rid = y from rfl, this.2.1]
    exact (nodeOf_setKid s c v A.rid m (upOf fs) y).2.2.1
  have ey : (((t.hang x (!s) m).hang u a y).hang y s x).nd y = nodeOf s c' v' x D.rid u := by
    rw [nd3 hy0, if_neg (fun e => hxy e.symm), if_pos rfl, nd2 hy0, if_pos rfl, if_neg hyu, nd1 hy0, if_neg hym, if_neg (fun e => hxy e.symm), k2]
    rw [(nodeOf_setKid s c' v' M.rid D.rid x u).2.2.1]
    exact (nodeOf_setKid s c' v' M.rid D.rid u x).1
  have emm : m ≠ -1 → (((t.hang x (!s) m).hang u a y).hang y s x).nd m = (t.nd m).setUp x := fun hne => by
    have hm0 : 0 ≤ m := (hmo.resolve_left hne).1
    have hmu : m ≠ u := fun e => by
      have q := hmm.resolve_left hne
      rcases huu with w | w
      · exact hne (e.trans w)
      · exact n7 m q u (by simp [w]) e
    rw [nd3 hm0, if_neg (fun e => hxm e.symm), if_neg (fun e => hym e.symm), nd2 hm0, if_neg (fun e => hym e.symm), if_neg hmu, nd1 hm0, if_pos rfl, if_neg (fun e => hxm e.symm)]
  have euu : u ≠ -1 → (((t.hang x (!s) m).hang u a y).hang y s x).nd u = (t.nd u).setKid a y := fun hne => by
    have hu0' : 0 ≤ u := (hu.resolve_left hne).1
    have hmu : u ≠ m := fun e => by
      have w := huu.resolve_left hne
      rcases hmm with q | q
      · exact hne (e.trans q)
      · exact n7 m q u (by simp [w]) e.symm
    rw [nd3 hu0', if_neg (fun e => hxu e.symm), if_neg (fun e => hyu e.symm), nd2 hu0', if_neg (fun e => hyu e.symm), if_pos rfl, nd1 hu0', if_neg hmu, if_neg (fun e => hxu e.symm)]
  have eroot : (((t.hang x (!s) m).hang u a y).hang y s x).root = if u = -1 then y else t.root := by
    rw [root_hang, if_neg (by omega), root_hang, root_hang, if_neg (by omega : x ≠ -1)]
  generalize ((t.hang x (!s) m).hang u a y).hang y s x = t' at l3 other ex ey emm euu eroot
  have inA : ∀ j ∈ A.ids, t'.nd j = t.nd j := fun j hj => by
    have q := fun b hb => n3 j hj b hb
    exact other j (h3.has j hj).1.1 (q x (by simp)) (q y (by simp)) (fun e => hmm.elim (fun w => by have := (h3.has j hj).1.1; omega) (fun w => q m (by simp [w]) e)) (fun e => huu.elim (fun w => by have := (h3.has j hj).1.1; omega) (fun w => q u (by simp [w]) e))
  have inM : ∀ j ∈ M.ids, j ≠ M.rid → t'.nd j = t.nd j := fun j hj hne => by
    have q := fun b hb => n7 j hj b hb
    rw [hm] at hne
    exact other j (k3.has j hj).1.1 (fun e => n4 (by rw [← e]; exact List.mem_append.2 (.inl hj))) (q y (by simp)) hne (fun e => huu.elim (fun w => by have := (k3.has j hj).1.1; omega) (fun w => q u (by simp [w]) e))
  have inD : ∀ j ∈ D.ids, t'.nd j = t.nd j := fun j hj => by
    refine other j (k4.has j hj).1.1 (fun e => n4 (by rw [← e]; simp [hj])) (fun e => n8 (by rw [← e]; simp [hj])) (fun e => ?_) (fun e => ?_)
    · rcases hmm with w | w
      · have := (k4.has j hj).1.1; omega
      · exact n7 m w j (by simp [hj]) e.symm
    · rcases huu with w | w
      · have := (k4.has j hj).1.1; omega
      · exact n10 j hj u w e
  have inC : ∀ j ∈ idsC fs, j ≠ upOf fs → t'.nd j = t.nd j := fun j hj hne => by
    rw [hu0] at hne
    have j0 := (h.ctx.has j hj).1
    refine other j j0 (fun e => n4 (by rw [← e]; simp [hj])) (fun e => n8 (by rw [← e]; simp [hj])) (fun e => ?_) hne
    rcases hmm with w | w
    · omega
    · exact n7 m w j (by simp [hj]) e.symm
  refine ⟨by rw [l3]; exact h.len, (Sub_bn ..).2 ⟨(has_len l3).2 k1, by rw [ey, hu0]; rfl, (Sub_bn ..).2 ⟨(has_len l3).2 h1, by rw [ex, hm], h3.congr l3 inA, ?_⟩, k4.congr l3 inD⟩, ?_, hp'.nodup_iff.2 hnod, fun j hj m1 m2 => ?_⟩
  · exact k3.congrUp l3 nM inM (fun hne => by rw [hm] at hne ⊢; exact emm hne)
  · refine SubC.put l3 nC inC (by rw [hu0]; exact eroot) (fun f gs e => ?_) h.ctx
    subst e
    have hz := h.side (show (bn s x c v A (bn s y c' v' M D)).rid ≠ -1 from has_ne h1)
    have hfi : u = f.i := hu0.symm
    have has' : a = f.s := ha.symm.trans hz.2.1
    have hne : u ≠ -1 := by rw [hfi]; exact has_ne h.ctx.1
    have := euu hne
    rw [hfi, has'] at this
    exact this
  · have hj' := (has_len l3).1 hj
    have hnm : j ∉ A.ids ++ (x :: (M.ids ++ (y :: (D.ids ++ idsC fs)))) := fun e => by
      have := hp'.mem_iff.2 e
      rcases List.mem_append.1 this with w | w
      · exact m1 w
      · exact m2 w
    simp only [List.mem_append, List.mem_cons, not_or] at hnm
    obtain ⟨w1, w2, w3, w4, w5, w6⟩ := hnm
    have j0 := hj'.1
    rw [other j j0 w2 w4 (fun e => hmm.elim (fun q => by omega) (fun q => w3 (by rw [e]; exact q))) (fun e => huu.elim (fun q => by omega) (fun q => w6 (by rw [e]; exact q)))]
    have hold : j ∉ (bn s x c v A (bn s y c' v' M D)).ids ++ idsC fs := fun e => by
      have := hp.mem_iff.1 e
      simp only [List.mem_append, List.mem_cons] at this
      rcases this with q | q | q | q | q | q
      · exact w1 q
      · exact w2 q
      · exact w3 q
      · exact w4 q
      · exact w5 q
      · exact w6 q
    exact h.rest j hj' (fun e => hold (List.mem_append.2 (.inl e))) (fun e => hold (List.mem_append.2 (.inr e)))
end Tr
end Go.Proofs.Ytgjacmkedgbneaa

namespace Go.Proofs.Ytgjacmkedgbneaa
namespace Tr
open Wd Tn Ky

/-- No Red one has a Red child, and each way has n that are not Red. -/
def Rb : B → Nat → Prop
  | .L, n => n = 0
  | .N _ true _ k, n => (k false).isRed = false ∧ (k true).isRed = false ∧ Rb (k false) n ∧ Rb (k true) n
  | .N _ false _ k, n => ∃ m, n = m + 1 ∧ Rb (k false) m ∧ Rb (k true) m
theorem Rb_red (s : Bool) (i v : Int) (x o : B) (n : Nat) : Rb (bn s i true v x o) n ↔ x.isRed = false ∧ o.isRed = false ∧ Rb x n ∧ Rb o n := by
  cases s
  · simp [bn, Rb]
  · simp only [bn, Rb, if_true, Bool.false_eq_true, if_false]
    exact ⟨fun h => ⟨h.2.1, h.1, h.2.2.2, h.2.2.1⟩, fun h => ⟨h.2.1, h.1, h.2.2.2, h.2.2.1⟩⟩
theorem Rb_black (s : Bool) (i v : Int) (x o : B) (n : Nat) : Rb (bn s i false v x o) n ↔ ∃ m, n = m + 1 ∧ Rb x m ∧ Rb o m := by
  cases s
  · simp [bn, Rb]
  · simp only [bn, Rb, if_true, Bool.false_eq_true, if_false]
    exact ⟨fun ⟨m, h⟩ => ⟨m, h.1, h.2.2, h.2.1⟩, fun ⟨m, h⟩ => ⟨m, h.1, h.2.2, h.2.1⟩⟩
theorem plain_iff : (b : B) → (b.plain.2 = true ↔ ∃ n, Rb b n) ∧ ∀ n, Rb b n → b.plain = (n, true)
  | .L => ⟨⟨fun _ => ⟨0, rfl⟩, fun _ => rfl⟩, fun n h => by rw [show n = 0 from h]; rfl⟩
  | .N i c v k => by
    have h1 := plain_iff (k false)
    have h2 := plain_iff (k true)
    have key : ∀ n, Rb (.N i c v k) n → (B.N i c v k).plain = (n, true) := fun n h => by
      cases c with
      | true =>
        obtain ⟨r1, r2, r3, r4⟩ := h
        have e1 := h1.2 n r3
        have e2 := h2.2 n r4
        simp [B.plain, e1, e2, r1, r2]
      | false =>
        obtain ⟨m, rfl, r3, r4⟩ := h
        have e1 := h1.2 m r3
        have e2 := h2.2 m r4
        simp [B.plain, e1, e2]
    refine ⟨⟨fun h => ?_, fun ⟨n, h⟩ => by rw [key n h]⟩, key⟩
    simp only [B.plain] at h
    split at h
    · rename_i hh
      obtain ⟨n1, e1⟩ := h1.1.1 hh.1
      obtain ⟨n2, e2⟩ := h2.1.1 hh.2.1
      have q1 := h1.2 n1 e1
      have q2 := h2.2 n2 e2
      have : n1 = n2 := by have := hh.2.2; rw [q1, q2] at this; exact this
      subst this
      cases c with
      | true =>
        simp only [if_true, Bool.and_eq_true, Bool.not_eq_true'] at h
        exact ⟨n1, h.1, h.2, e1, e2⟩
      | false => exact ⟨n1 + 1, n1, rfl, e1, e2⟩
    · cases h
def topRed : List F → Bool
  | [] => false
  | f :: _ => f.c
/-- What stands around a place where each way has n that are not Red. -/
def RbC : List F → Nat → Prop
  | [], _ => True
  | f :: fs, n => Rb f.o n ∧ (f.c = true → f.o.isRed = false ∧ topRed fs = false ∧ fs ≠ []) ∧ RbC fs (if f.c then n else n + 1)
theorem isRed_bn (s : Bool) (i : Int) (c : Bool) (v : Int) (x o : B) : (bn s i c v x o).isRed = c := rfl
theorem Rb_put {f : F} {fs : List F} {b : B} {n : Nat} (hb : Rb b n) (hc : RbC (f :: fs) n) (hr : f.c = true → b.isRed = false) : Rb (f.put b) (if f.c then n else n + 1) := by
  obtain ⟨h1, h2, -⟩ := hc
  unfold F.put
  cases h : f.c with
  | true => exact (Rb_red ..).2 ⟨hr h, (h2 h).1, hb, h1⟩
  | false => exact (Rb_black ..).2 ⟨n, rfl, hb, h1⟩
/-- All of it is right. -/
theorem Rb_plug {fs : List F} : ∀ {b : B} {n : Nat}, Rb b n → RbC fs n → (b.isRed = true → topRed fs = false ∧ fs ≠ []) → (plug b fs).isRed = false ∧ ∃ m, Rb (plug b fs) m := by
  induction fs with
  | nil =>
    intro b n hb _ hr
    refine ⟨?_, n, hb⟩
    cases h : b.isRed with
    | false => exact h
    | true => exact absurd rfl (hr h).2
  | cons f fs ih =>
    intro b n hb hc hr
    have hput := Rb_put hb hc (fun e => by
      cases h : b.isRed with
      | false => rfl
      | true => have := (hr h).1; rw [show topRed (f :: fs) = f.c from rfl, e] at this; cases this)
    exact ih hput hc.2.2 (fun e => (hc.2.1 e).2)
theorem keys_bn (s : Bool) (i : Int) (c : Bool) (v : Int) (x o : B) : (bn s i c v x o).keys = if s then o.keys ++ (v, i) :: x.keys else x.keys ++ (v, i) :: o.keys := by
  cases s <;> simp [bn, B.keys]
theorem keys_turn (s : Bool) (x : Int) (c : Bool) (v : Int) (y : Int) (c' : Bool) (v' : Int) (A M D : B) : (bn s y c' v' (bn s x c v A M) D).keys = (bn s x c v A (bn s y c' v' M D)).keys := by
  cases s <;> simp [keys_bn]
theorem keys_plug {fs : List F} : ∀ {b b' : B}, b'.keys = b.keys → (plug b' fs).keys = (plug b fs).keys := by
  induction fs with
  | nil => intro b b' h; exact h
  | cons f fs ih =>
    intro b b' h
    refine ih ?_
    unfold F.put
    rw [keys_bn, keys_bn, h]
theorem paint_same {t : T} {i : Int} (hi : t.has i) {c : Bool} (h : (t.nd i).red = c) : t.paint i c = t := by
  have e : (t.nd i).setRed c = t.nd i := by rw [← h]; rfl
  unfold T.paint T.put
  rw [e]
  unfold T.has at hi
  have : t.ns.set i.toNat (t.nd i) = t.ns := by
    have hlt : i.toNat < t.ns.length := by omega
    have hnd : t.nd i = t.ns[i.toNat] := by unfold T.nd; simp [List.getD, hlt]
    rw [hnd, List.set_getElem_self]
  rw [this]
theorem redB_of {t : T} {i : Int} (hi : t.has i) : t.redB i = (t.nd i).red := by unfold T.redB; rw [decide_eq_true (has_ne hi), Bool.true_and]

/-- What mending comes to. -/
def Mended (t : T) (x : Int) (ks : List K) : Prop := ∃ (n : Nat) (t' : T) (b' : B), Mend n t x t' ∧ Whole t' b' ∧ b'.isRed = false ∧ (∃ m, Rb b' m) ∧ b'.keys = ks
theorem mend_done {t : T} {b : B} {fs : List F} {n : Nat} (h : Z t b fs) (hr : b.isRed = true) (hb : Rb b n) (hc : RbC fs n) (ht : topRed fs = false) (k : Nat) :
    ∃ (t' : T) (b' : B), Mend k t b.rid t' ∧ Whole t' b' ∧ b'.isRed = false ∧ (∃ m, Rb b' m) ∧ b'.keys = (plug b fs).keys := by
  obtain ⟨i, v, x, o, rfl⟩ : ∃ i v x o, b = bn false i true v x o := by
    cases b with
    | L => cases hr
    | N i c v kk => rw [B.isRed] at hr; subst hr; exact ⟨i, v, kk false, kk true, bn_eta false i true v kk⟩
  have hi : t.has i := ((Sub_bn ..).1 h.sub).1
  have hup : t.up i = upOf fs := by unfold T.up; rw [((Sub_bn ..).1 h.sub).2.1]; exact (nodeOf_kid ..).2.2.1
  cases fs with
  | nil =>
    have hroot : t.root = i := h.ctx
    obtain ⟨q1, q2, q3, q4⟩ := (Rb_red ..).1 hb
    refine ⟨t.paint t.root false, bn false i false v x o, .done k t i hi (by rw [hup]; exact .inl rfl) (by rw [hup]; rfl) (by rw [hroot]; exact hi), ?_, rfl, ⟨n + 1, (Rb_black ..).2 ⟨n, rfl, q3, q4⟩⟩, ?_⟩
    · rw [hroot, ← Z_whole]; exact h.paint false
    · show (bn false i false v x o).keys = (bn false i true v x o).keys
      rw [keys_bn, keys_bn]
  | cons f fs =>
    have hfc : f.c = false := ht
    have hw := (Z_plug t _ (f :: fs)).1 h
    obtain ⟨hpr, m, hpm⟩ := Rb_plug hb hc (fun _ => ⟨ht, by simp⟩)
    have hfh : t.has f.i := h.ctx.1
    have hfr : t.redB f.i = false := by rw [redB_of hfh, h.ctx.2.1, (nodeOf_kid ..).2.2.2]; exact hfc
    generalize hpl : plug (bn false i true v x o) (f :: fs) = b' at hw hpr hpm
    have hnl : t.has t.root := by
      rw [hw.root]
      refine hw.sub.ok.resolve_left (fun e => ?_)
      cases b' with
      | N i' c' v' k' => have := hw.sub.1; exact has_ne this e
      | L =>
        have := hw.rest i hi (by simp [B.ids])
        have h2 := ((Sub_bn ..).1 h.sub).2.1
        rw [h2] at this
        have h3 : (nodeOf false true v x.rid o.rid (upOf (f :: fs))).inn = nE.inn := by rw [this]
        cases h3
    have hrr : (t.nd t.root).red = false := by rw [← redB_of hnl, hw.root, hw.sub.red]; exact hpr
    refine ⟨t.paint t.root false, b', .done k t i hi (by rw [hup]; exact .inr hfh) (by rw [hup]; exact hfr) hnl, ?_, hpr, ⟨m, hpm⟩, by rw [← hpl]⟩
    rw [paint_same hnl hrr]
    exact hw
end Tr
end Go.Proofs.Ytgjacmkedgbneaa

namespace Go.Proofs.Ytgjacmkedgbneaa
namespace Tr
open Wd Tn Ky

/-- The frame, painted. -/
def F.paint (f : F) (c : Bool) : F := { f with c := c }
theorem Z.paintUp {t : T} {b : B} {f : F} {fs : List F} (h : Z t b (f :: fs)) (c : Bool) : Z (t.paint f.i c) b (f.paint c :: fs) := by
  rw [Z_step] at h ⊢
  exact h.paint c
/-- Seen from the other child. -/
theorem Z.over {t : T} {b : B} {f : F} {fs : List F} (h : Z t b (f :: fs)) : Z t f.o (⟨!f.s, f.i, f.c, f.v, b⟩ :: fs) := by
  rw [Z_step] at h ⊢
  unfold F.put at h ⊢
  simp only
  rw [← bn_swap]
  exact h
theorem kid_frame {t : T} {b : B} {f : F} {fs : List F} (h : Z t b (f :: fs)) : t.kid f.i f.s = b.rid ∧ t.kid f.i (!f.s) = f.o.rid ∧ t.has f.i ∧ t.redB f.i = f.c ∧ t.up f.i = upOf fs := by
  obtain ⟨h1, h2, -⟩ := h.ctx
  have k := nodeOf_kid f.s f.c f.v b.rid f.o.rid (upOf fs)
  refine ⟨by unfold T.kid; rw [h2]; exact k.1, by unfold T.kid; rw [h2]; exact k.2.1, h1, by rw [redB_of h1, h2]; exact k.2.2.2, by unfold T.up; rw [h2]; exact k.2.2.1⟩
theorem red_split {b : B} (h : b.isRed = true) (s : Bool) : ∃ i v x o, b = bn s i true v x o := by
  cases b with
  | L => cases h
  | N i c v k => rw [B.isRed] at h; subst h; exact ⟨i, v, k s, k (!s), bn_eta s i true v k⟩

set_option maxHeartbeats 1000000 in
theorem mend_all : (len : Nat) → ∀ {fs : List F} {t : T} {b : B} {n : Nat}, fs.length ≤ len → Z t b fs → b.isRed = true → Rb b n → RbC fs n → Mended t b.rid (plug b fs).keys
  | len, [], t, b, n, _, h, hr, hb, hc => by
    obtain ⟨t', b', q⟩ := mend_done h hr hb hc rfl 0
    exact ⟨0, t', b', q⟩
  | len, [f], t, b, n, hlen, h, hr, hb, hc => by
    cases hfc : f.c with
    | false =>
      obtain ⟨t', b', q⟩ := mend_done h hr hb hc hfc 0
      exact ⟨0, t', b', q⟩
    | true => exact absurd rfl (hc.2.1 hfc).2.2
  | 0, f :: g :: fs, t, b, n, hlen, h, hr, hb, hc => by simp at hlen
  | 1, f :: g :: fs, t, b, n, hlen, h, hr, hb, hc => by simp at hlen
  | len + 2, f :: g :: fs, t, b, n, hlen, h, hr, hb, hc => by
    cases hfc : f.c with
    | false =>
      obtain ⟨t', b', q⟩ := mend_done h hr hb hc hfc 0
      exact ⟨0, t', b', q⟩
    | true =>
      obtain ⟨c1, c2, c3⟩ := hc
      obtain ⟨c4, c5, -⟩ := c2 hfc
      have hgc : g.c = false := c5
      rw [hfc, if_pos rfl] at c3
      obtain ⟨c6, -, c7⟩ := c3
      rw [hgc, if_neg (by decide)] at c7
      have hx : b.rid ≠ -1 := by
        obtain ⟨i, v, x, o, rfl⟩ := red_split hr false
        exact has_ne ((Sub_bn ..).1 h.sub).1
      obtain ⟨e1, e2, e3⟩ := h.side hx
      obtain ⟨kf1, kf2, kf3, kf4, kf5⟩ := kid_frame h
      rw [hfc] at kf4
      have h2 : Z t (f.put b) (g :: fs) := (Z_step ..).1 h
      have hp0 : (f.put b).rid = f.i := rfl
      obtain ⟨g1, g2, g3⟩ := h2.side (by rw [hp0]; exact has_ne kf3)
      rw [hp0] at g1 g2
      obtain ⟨kg1, kg2, kg3, kg4, kg5⟩ := kid_frame h2
      have hu : t.ok g.o.rid := (h2.ctx.2.2.1).ok
      have hured : t.redB g.o.rid = g.o.isRed := (h2.ctx.2.2.1).red
      cases hgo : g.o.isRed with
      | true =>
        -- the uncle is Red
        obtain ⟨iu, vu, xu, ou, hou⟩ := red_split hgo (!g.s)
        have hsu := h2.ctx.2.2.1
        rw [hou] at hsu
        have hup : t.has g.o.rid := by rw [hou]; exact ((Sub_bn ..).1 hsu).1
        have z1 : Z (t.paint f.i false) b (f.paint false :: g :: fs) := h.paintUp false
        have z2 : Z (t.paint f.i false) ((f.paint false).put b) (g :: fs) := (Z_step ..).1 z1
        have z3 := z2.over
        rw [hou] at z3
        have z4 := z3.paint false
        have z5 := z4.paintUp true
        have z6 := (Z_step ..).1 z5
        obtain ⟨r1, r2, r3, r4⟩ := (Rb_red ..).1 (by rw [hou] at c6; exact c6)
        have hPr : Rb ((f.paint false).put b) (n + 1) := (Rb_black ..).2 ⟨n, rfl, hb, c1⟩
        have hUr : Rb (bn (!g.s) iu false vu xu ou) (n + 1) := (Rb_black ..).2 ⟨n, rfl, r3, r4⟩
        have hGr : Rb (bn (!g.s) g.i true g.v (bn (!g.s) iu false vu xu ou) ((f.paint false).put b)) (n + 1) := (Rb_red ..).2 ⟨rfl, rfl, hUr, hPr⟩
        obtain ⟨k, t', b', m1, m2, m3, m4, m5⟩ := mend_all len (by simp at hlen; omega) z6 rfl hGr c7
        refine ⟨k + 1, t', b', .up k t t' b.rid f.i g.i g.o.rid g.s e3 e1 kf3 kf4 g1 kg3 g2 kg2 hup (by rw [hured, hgo]) ?_, m2, m3, m4, ?_⟩
        · have : g.o.rid = iu := by rw [hou]; rfl
          rw [this]
          exact m1
        · rw [m5]
          show _ = (plug (g.put (f.put b)) fs).keys
          refine keys_plug ?_
          show (bn (!g.s) g.i true g.v (bn (!g.s) iu false vu xu ou) (bn f.s f.i false f.v b f.o)).keys = (bn g.s g.i g.c g.v (bn f.s f.i f.c f.v b f.o) g.o).keys
          rw [hou, bn_swap g.s]
          simp only [keys_bn]
      | false =>
        rw [hgo] at hured
        have hxne : f.o.rid ≠ b.rid := fun e => by
          rcases rid_mem f.o with w | w
          · exact hx (e.symm.trans w)
          · have hb' := (rid_mem b).resolve_left hx
            have hd := h.nod
            rw [List.nodup_append] at hd
            exact hd.2.2 b.rid hb' f.o.rid (by simp [idsC, w]) e.symm
        by_cases hs : f.s = g.s
        · -- on the outer side
          have z1 : Z (t.paint f.i false) ((f.paint false).put b) (g :: fs) := (Z_step ..).1 (h.paintUp false)
          have z2 : Z ((t.paint f.i false).paint g.i true) ((g.paint true).put ((f.paint false).put b)) fs := (Z_step ..).1 (z1.paintUp true)
          have z3 : Z ((t.paint f.i false).paint g.i true) (bn (!g.s) g.i true g.v g.o (bn (!g.s) f.i false f.v f.o b)) fs := by
            have e : (g.paint true).put ((f.paint false).put b) = bn (!g.s) g.i true g.v g.o (bn (!g.s) f.i false f.v f.o b) := by
              show bn g.s g.i true g.v (bn f.s f.i false f.v b f.o) g.o = _
              rw [bn_swap g.s, hs, bn_swap g.s f.i]
            rw [← e]; exact z2
          obtain ⟨tok, z4⟩ := z3.turn
          have z5 : Z (((t.paint f.i false).paint g.i true).turn g.i (!g.s)) b (⟨g.s, f.i, false, f.v, bn (!g.s) g.i true g.v g.o f.o⟩ :: fs) := by
            rw [Z_step]
            show Z _ (bn g.s f.i false f.v b _) fs
            rw [bn_swap g.s]
            exact z4
          have hG : Rb (bn (!g.s) g.i true g.v g.o f.o) n := (Rb_red ..).2 ⟨hgo, c4, c6, c1⟩
          obtain ⟨t', b', m1, m2, m3, m4, m5⟩ := mend_done z5 hr hb ⟨hG, (fun e => by cases e), c7⟩ rfl 0
          refine ⟨1, t', b', .out 0 t t' b.rid f.i g.i g.o.rid g.s e3 e1 kf3 kf4 g1 kg3 g2 kg2 hu hured (by rw [e2, hs]) (by rw [← hs, kf2]; exact hxne) tok m1, m2, m3, m4, ?_⟩
          rw [m5]
          show (plug (bn g.s f.i false f.v b (bn (!g.s) g.i true g.v g.o f.o)) fs).keys = (plug (bn g.s g.i g.c g.v (bn f.s f.i f.c f.v b f.o) g.o) fs).keys
          refine keys_plug ?_
          rw [hs]
          cases g.s <;> simp [keys_bn]
        · -- on the inner side
          have hs' : f.s = !g.s := by cases hf : f.s <;> cases hg : g.s <;> simp_all
          obtain ⟨i, v, M, D, hbe⟩ := red_split hr g.s
          have hi : b.rid = i := by rw [hbe]; rfl
          obtain ⟨q1, q2, q3, q4⟩ := (Rb_red ..).1 (by rw [hbe] at hb; exact hb)
          have z1 : Z t (bn g.s f.i true f.v f.o (bn g.s i true v M D)) (g :: fs) := by
            have e : f.put b = bn g.s f.i true f.v f.o (bn g.s i true v M D) := by
              show bn f.s f.i f.c f.v b f.o = _
              rw [hs', hfc, bn_swap g.s f.i, hbe]
            rw [← e]; exact h2
          obtain ⟨tok1, z2⟩ := z1.turn
          have hup1 : (t.turn f.i g.s).up f.i = i := by
            have q := ((Sub_bn ..).1 ((Sub_bn ..).1 z2.sub).2.2.1).2.1
            unfold T.up
            rw [q]
            exact (nodeOf_kid ..).2.2.1
          have z3 := z2.paint false
          have z4 : Z (((t.turn f.i g.s).paint i false).paint g.i true) ((g.paint true).put (bn g.s i false v (bn g.s f.i true f.v f.o M) D)) fs := (Z_step ..).1 (z3.paintUp true)
          have z5 : Z (((t.turn f.i g.s).paint i false).paint g.i true) (bn (!g.s) g.i true g.v g.o (bn (!g.s) i false v D (bn g.s f.i true f.v f.o M))) fs := by
            have e : (g.paint true).put (bn g.s i false v (bn g.s f.i true f.v f.o M) D) = bn (!g.s) g.i true g.v g.o (bn (!g.s) i false v D (bn g.s f.i true f.v f.o M)) := by
              show bn g.s g.i true g.v (bn g.s i false v (bn g.s f.i true f.v f.o M) D) g.o = _
              rw [bn_swap g.s g.i, bn_swap g.s i]
            rw [← e]; exact z4
          obtain ⟨tok2, z6⟩ := z5.turn
          have z7 : Z ((((t.turn f.i g.s).paint i false).paint g.i true).turn g.i (!g.s)) (bn g.s f.i true f.v f.o M) (⟨g.s, i, false, v, bn (!g.s) g.i true g.v g.o D⟩ :: fs) := by
            rw [Z_step]
            show Z _ (bn g.s i false v (bn g.s f.i true f.v f.o M) _) fs
            rw [bn_swap g.s i]
            exact z6
          have hP : Rb (bn g.s f.i true f.v f.o M) n := (Rb_red ..).2 ⟨c4, q1, c1, q3⟩
          have hG : Rb (bn (!g.s) g.i true g.v g.o D) n := (Rb_red ..).2 ⟨hgo, q2, c6, q4⟩
          obtain ⟨t', b', m1, m2, m3, m4, m5⟩ := mend_done z7 rfl hP ⟨hG, (fun e => by cases e), c7⟩ rfl 0
          refine ⟨1, t', b', .inn 0 t t' b.rid f.i g.i g.o.rid g.s e3 e1 kf3 kf4 g1 kg3 g2 kg2 hu hured (by rw [e2, hs']) (by rw [← hs', kf1]) tok1 (by rw [hup1, hi]) (by rw [hi]; exact tok2) (by rw [hi]; exact m1), m2, m3, m4, ?_⟩
          rw [m5]
          show (plug (bn g.s i false v (bn g.s f.i true f.v f.o M) (bn (!g.s) g.i true g.v g.o D)) fs).keys = (plug (bn g.s g.i g.c g.v (bn f.s f.i f.c f.v b f.o) g.o) fs).keys
          refine keys_plug ?_
          rw [hs', hbe]
          cases g.s <;> simp [keys_bn]
end Tr
end Go.Proofs.Ytgjacmkedgbneaa

namespace Go.Proofs.Ytgjacmkedgbneaa
namespace Tr
open Wd Tn Ky

def sd : List F → Bool
  | [] => false
  | f :: _ => f.s
def keysL : List F → List K
  | [] => []
  | f :: fs => keysL fs ++ if f.s then f.o.keys ++ [(f.v, f.i)] else []
def keysR : List F → List K
  | [] => []
  | f :: fs => (if f.s then [] else (f.v, f.i) :: f.o.keys) ++ keysR fs
theorem keys_all (fs : List F) : ∀ b : B, (plug b fs).keys = keysL fs ++ b.keys ++ keysR fs := by
  induction fs with
  | nil => intro b; simp [plug, keysL, keysR]
  | cons f fs ih =>
    intro b
    show (plug (f.put b) fs).keys = _
    rw [ih, F.put, keys_bn]
    cases hs : f.s <;> simp [keysL, keysR, hs]
theorem SubC.inn {t : T} : {fs : List F} → {x : Int} → SubC t fs x → ∀ i ∈ idsC fs, (t.nd i).inn = true
  | [], _, _, i, hi => by cases hi
  | f :: fs, x, h, i, hi => by
    simp only [idsC, List.mem_cons, List.mem_append] at hi
    rcases hi with rfl | hi | hi
    · rw [h.2.1]; rfl
    · exact (h.2.2.1.has i hi).2
    · exact SubC.inn h.2.2.2 i hi
/-- A node comes to a place where nothing stood. -/
theorem Z.ins {t : T} {fs : List F} {id : Int} (v : Int) (h : Z t .L fs) (hid : t.has id) (hn : id ∉ idsC fs) : Z ((t.put id (nNew v)).hang (upOf fs) (sd fs) id) (bn false id true v .L .L) fs := by
  have l0 : (t.put id (nNew v)).ns.length = t.ns.length := put_len _ _ _
  have l1 : ((t.put id (nNew v)).hang (upOf fs) (sd fs) id).ns.length = t.ns.length := (hang_len _ _ _ _).trans l0
  have hu := h.ctx.ok
  have hne : id ≠ upOf fs := fun e => (upOf_mem fs).elim (fun w => has_ne hid (e.trans w)) (fun w => hn (by rw [e]; exact w))
  have nd1 : ∀ {j : Int}, 0 ≤ j → ((t.put id (nNew v)).hang (upOf fs) (sd fs) id).nd j = _ := fun hj => nd_hang ((ok_len l0).2 hu) (.inr ((has_len l0).2 hid)) (sd fs) hj
  have e1 : ((t.put id (nNew v)).hang (upOf fs) (sd fs) id).nd id = nodeOf false true v (-1) (-1) (upOf fs) := by
    rw [nd1 hid.1, if_pos rfl, if_neg hne, nd_put_same hid]; rfl
  have e2 : ∀ j, 0 ≤ j → j ≠ id → j ≠ upOf fs → ((t.put id (nNew v)).hang (upOf fs) (sd fs) id).nd j = t.nd j := fun j hj q1 q2 => by
    rw [nd1 hj, if_neg q1, if_neg q2, nd_put hid _ hj, if_neg q1]
  have e3 : upOf fs ≠ -1 → ((t.put id (nNew v)).hang (upOf fs) (sd fs) id).nd (upOf fs) = (t.nd (upOf fs)).setKid (sd fs) id := fun q => by
    have h0 := (hu.resolve_left q).1
    rw [nd1 h0, if_neg (fun e => hne e.symm), if_pos rfl, nd_put hid _ h0, if_neg (fun e => hne e.symm)]
  have e4 : ((t.put id (nNew v)).hang (upOf fs) (sd fs) id).root = if upOf fs = -1 then id else t.root := by rw [root_hang]; rfl
  generalize (t.put id (nNew v)).hang (upOf fs) (sd fs) id = t' at l1 e1 e2 e3 e4
  have hd : (idsC fs).Nodup := by simpa [B.ids] using h.nod
  refine ⟨by rw [l1]; exact h.len, (Sub_bn ..).2 ⟨(has_len l1).2 hid, e1, trivial, trivial⟩, SubC.put l1 hd (fun j hj q => e2 j (h.ctx.has j hj).1 (fun e => hn (by rw [← e]; exact hj)) q) e4 (fun f gs e => ?_) h.ctx, ?_, fun j hj m1 m2 => ?_⟩
  · subst e
    exact e3 (has_ne h.ctx.1)
  · show ([] ++ id :: ([] : List Int) ++ idsC fs).Nodup
    exact List.nodup_cons.2 ⟨hn, hd⟩
  · have hj' := (has_len l1).1 hj
    have q1 : j ≠ id := fun e => m1 (by rw [e]; simp [bn, B.ids])
    rw [e2 j hj'.1 q1 (fun e => (upOf_mem fs).elim (fun w => has_ne hj' (e.trans w)) (fun w => m2 (by rw [e]; exact w)))]
    exact h.rest j hj' (by simp [B.ids]) m2

theorem down_all {m : Int} {k : K} {t : T} : (b : B) → ∀ {fs : List F} {n : Nat}, Z t b fs → okK m b.keys → (∀ x ∈ keysL fs, ltK m k x = false) → (∀ x ∈ keysR fs, ltK m k x = true) →
    Rb b n → RbC fs n → (b.isRed = true → topRed fs = false ∧ fs ≠ []) →
    ∃ (d : Nat) (fs' : List F), Down m k t d b.rid (upOf fs) (sd fs) (upOf fs') (sd fs') ∧ Z t .L fs' ∧ plug .L fs' = plug b fs ∧ RbC fs' 0 ∧ (∀ x ∈ keysL fs', ltK m k x = false) ∧ (∀ x ∈ keysR fs', ltK m k x = true)
  | .L, fs, n, h, _, hL, hR, hb, hc, _ => by
    have : n = 0 := hb
    subst this
    exact ⟨0, fs, .stop 0 _ _ h.ctx.ok, h, rfl, hc, hL, hR⟩
  | .N i c v kk, fs, n, h, hok, hL, hR, hb, hc, hcr => by
    obtain ⟨s, hs⟩ : ∃ s, (!(ltK m k (t.key i))) = s := ⟨_, rfl⟩
    have he := bn_eta s i c v kk
    have hkey : t.key i = (v, i) := by unfold T.key; rw [h.sub.2.1]
    have hi : t.has i := h.sub.1
    have hz : Z t (kk s) (⟨s, i, c, v, kk (!s)⟩ :: fs) := by
      rw [Z_step]
      show Z t (bn s i c v (kk s) (kk (!s))) fs
      rw [← he]; exact h
    have hkid : t.kid i s = (kk s).rid := (kid_frame hz).1
    rw [he] at hb
    have hrb : ∃ n', Rb (kk s) n' ∧ RbC (⟨s, i, c, v, kk (!s)⟩ :: fs) n' ∧ ((kk s).isRed = true → topRed (⟨s, i, c, v, kk (!s)⟩ :: fs) = false ∧ (⟨s, i, c, v, kk (!s)⟩ :: fs) ≠ []) := by
      cases c with
      | true =>
        obtain ⟨q1, q2, q3, q4⟩ := (Rb_red ..).1 hb
        exact ⟨n, q3, ⟨q4, fun _ => ⟨q2, (hcr rfl).1, (hcr rfl).2⟩, hc⟩, fun e => by rw [q1] at e; cases e⟩
      | false =>
        obtain ⟨n', rfl, q3, q4⟩ := (Rb_black ..).1 hb
        exact ⟨n', q3, ⟨q4, (fun e => by cases e), hc⟩, fun _ => ⟨rfl, by simp⟩⟩
    obtain ⟨n', r1, r2, r3⟩ := hrb
    have hok2 : okK m ((kk false).keys ++ (v, i) :: (kk true).keys) := hok
    unfold okK at hok2
    rw [List.pairwise_append] at hok2
    obtain ⟨o1, o2, o3⟩ := hok2
    obtain ⟨o4, o5⟩ := List.pairwise_cons.1 o2
    cases hsv : s with
    | false =>
      subst hsv
      have hlt : ltK m k (v, i) = true := by rw [← hkey]; simpa using hs
      obtain ⟨d, fs', a1, a2, a3, a4, a5, a6⟩ := down_all (kk false) hz o1 (fun x hx => hL x (by simpa [keysL] using hx)) (fun x hx => by
        simp only [keysR, Bool.false_eq_true, if_false, List.cons_append, List.mem_cons, List.mem_append] at hx
        rcases hx with rfl | hx | hx
        · exact hlt
        · exact lt_trans hlt (o4 x hx).1
        · exact hR x hx) r1 r2 r3
      refine ⟨d + 1, fs', .step d i (upOf fs) (upOf fs') (sd fs) (sd fs') hi ?_, a2, ?_, a4, a5, a6⟩
      · rw [hs, hkid]; exact a1
      · rw [a3]; show plug (bn false i c v (kk false) (kk (!false))) fs = _; rw [← he]
    | true =>
      subst hsv
      have hlt : ltK m k (v, i) = false := by rw [← hkey]; simpa using hs
      obtain ⟨d, fs', a1, a2, a3, a4, a5, a6⟩ := down_all (kk true) hz o5 (fun x hx => by
        simp only [keysL, if_true, List.mem_append, List.mem_cons, List.not_mem_nil, or_false] at hx
        rcases hx with hx | hx | rfl
        · exact hL x hx
        · cases hc' : ltK m k x with
          | false => rfl
          | true => rw [lt_trans hc' (o3 x hx (v, i) (by simp)).1] at hlt; cases hlt
        · exact hlt) (fun x hx => hR x (by simpa [keysR] using hx)) r1 r2 r3
      refine ⟨d + 1, fs', .step d i (upOf fs) (upOf fs') (sd fs) (sd fs') hi ?_, a2, ?_, a4, a5, a6⟩
      · rw [hs, hkid]; exact a1
      · rw [a3]; show plug (bn true i c v (kk true) (kk (!true))) fs = _; rw [← he]

theorem okK_ins {m : Int} {k : K} {l r : List K} (hok : okK m (l ++ r)) (hkin : Kin k) (hk : ∀ x ∈ l ++ r, Kin x ∧ x.2 ≠ k.2) (hl : ∀ x ∈ l, ltK m k x = false) (hr : ∀ x ∈ r, ltK m k x = true) : okK m (l ++ k :: r) := by
  unfold okK at *
  rw [List.pairwise_append] at hok ⊢
  obtain ⟨o1, o2, o3⟩ := hok
  refine ⟨o1, List.pairwise_cons.2 ⟨fun x hx => ⟨hr x hx, fun e => (hk x (by simp [hx])).2 e.symm⟩, o2⟩, fun a ha b hb => ?_⟩
  rcases List.mem_cons.1 hb with rfl | hb
  · refine ⟨?_, (hk a (by simp [ha])).2⟩
    cases hc : ltK m a b with
    | true => rfl
    | false => exact absurd (congrArg Prod.snd (lt_same hkin (hk a (by simp [ha])).1 (hl a ha) hc)).symm (hk a (by simp [ha])).2
  · exact o3 a ha b hb
theorem ids_keys : (b : B) → b.ids = b.keys.map (·.2)
  | .L => rfl
  | .N i c v k => by simp [B.ids, B.keys, ids_keys (k false), ids_keys (k true)]
/-- A right tree, and one key more. -/
theorem ins_all {m : Int} {k : K} {t : T} {b : B} (hw : Whole t b) (hr : RightB m b) (hkin : Kin k) (hU : ∀ x ∈ b.keys, Kin x) (hk : t.has k.2) (hi : (t.nd k.2).inn = false) :
    ∃ (n n2 : Nat) (u : Int) (s : Bool) (t' : T) (b' : B), Down m k t n t.root (-1) false u s ∧ Mend n2 ((t.put k.2 (nNew k.1)).hang u s k.2) k.2 t' ∧ Whole t' b' ∧ RightB m b' ∧
      ∃ l r, b.keys = l ++ r ∧ b'.keys = l ++ k :: r ∧ (∀ x ∈ l, ltK m k x = false) ∧ (∀ x ∈ r, ltK m k x = true) := by
  obtain ⟨r1, r2, r3⟩ := hr
  obtain ⟨N, hN⟩ := (plain_iff b).1.1 r3
  obtain ⟨d, fs, a1, a2, a3, a4, a5, a6⟩ := down_all (m := m) (k := k) b ((Z_whole t b).2 hw) r2 (fun x hx => by cases hx) (fun x hx => by cases hx) hN trivial (fun e => by rw [r1] at e; cases e)
  have hnid : k.2 ∉ idsC fs := fun e => by have := a2.ctx.inn k.2 e; rw [hi] at this; cases this
  have z := a2.ins k.1 hk hnid
  have hrb0 : Rb (bn false k.2 true k.1 .L .L) 0 := (Rb_red ..).2 ⟨rfl, rfl, rfl, rfl⟩
  obtain ⟨n2, t', b', m1, m2, m3, ⟨N', m4⟩, m5⟩ := mend_all fs.length (Nat.le_refl _) z rfl hrb0 a4
  have hkeys : b.keys = keysL fs ++ keysR fs := by
    have h1 := keys_all fs .L
    rw [a3] at h1
    simpa [plug, B.keys] using h1
  have hkeys' : b'.keys = keysL fs ++ k :: keysR fs := by
    rw [m5, keys_all]
    simp [keys_bn, B.keys]
  have hnk : ∀ x ∈ b.keys, x.2 ≠ k.2 := fun x hx e => by
    have hx2 : x.2 ∈ b.ids := by rw [ids_keys]; exact List.mem_map.2 ⟨x, hx, rfl⟩
    have := (hw.sub.has x.2 hx2).2
    rw [e, hi] at this
    cases this
  refine ⟨d, n2, upOf fs, sd fs, t', b', by rw [hw.root]; exact a1, m1, m2, ⟨m3, ?_, (plain_iff b').1.2 ⟨N', m4⟩⟩, keysL fs, keysR fs, hkeys, hkeys', a5, a6⟩
  rw [hkeys']
  exact okK_ins (by rw [← hkeys]; exact r2) hkin (fun x hx => by rw [← hkeys] at hx; exact ⟨hU x hx, hnk x hx⟩) a5 a6
end Tr
end Go.Proofs.Ytgjacmkedgbneaa

namespace Go.Proofs.Ytgjacmkedgbneaa
namespace Tr
open Wd Tn Ky

/-- What filling comes to. -/
def Filled (t : T) (u : Int) (s : Bool) (ks : List K) : Prop := ∃ (n : Nat) (t' : T) (b' : B), Fill n t u s t' ∧ Whole t' b' ∧ b'.isRed = false ∧ (∃ m, Rb b' m) ∧ b'.keys = ks
/-- One too few on each way; a Red root may have Red children. -/
def RbF : B → Nat → Prop
  | .N _ true _ k, n => Rb (k false) n ∧ Rb (k true) n
  | b, n => Rb b n
theorem RbF_red (s : Bool) (i v : Int) (x o : B) (n : Nat) : RbF (bn s i true v x o) n ↔ Rb x n ∧ Rb o n := by
  cases s
  · simp [bn, RbF]
  · simp only [bn, RbF, if_true, Bool.false_eq_true, if_false]
    exact and_comm
theorem RbF_black {b : B} {n : Nat} (hb : b.isRed = false) : RbF b n ↔ Rb b n := by
  cases b with
  | L => rfl
  | N i c v k => rw [B.isRed] at hb; subst hb; rfl
theorem RbF_of {b : B} {n : Nat} (h : Rb b n) : RbF b n := by
  cases hr : b.isRed with
  | false => exact (RbF_black hr).2 h
  | true =>
    obtain ⟨i, v, x, o, rfl⟩ := red_split hr false
    exact (RbF_red ..).2 ((Rb_red ..).1 h).2.2
theorem black_split {b : B} {n : Nat} (h : Rb b (n + 1)) (hr : b.isRed = false) (s : Bool) : ∃ i v x o, b = bn s i false v x o ∧ Rb x n ∧ Rb o n := by
  cases b with
  | L => cases h
  | N i c v k =>
    rw [B.isRed] at hr
    subst hr
    refine ⟨i, v, k s, k (!s), bn_eta s i false v k, ?_⟩
    rw [bn_eta s i false v k] at h
    obtain ⟨m, e, h1, h2⟩ := (Rb_black ..).1 h
    have : n = m := by omega
    subst this
    exact ⟨h1, h2⟩
/-- Filled for good, the far child being Red. -/
theorem setfar_all {t : T} {x : B} {s : Bool} {u : Int} {c : Bool} {uv : Int} {fs : List F} {w wv d dv : Int} {M P Q : B} {n : Nat} (h : Z t x (⟨s, u, c, uv, bn s w false wv M (bn s d true dv P Q)⟩ :: fs))
    (hx : Rb x n) (hM : Rb M n) (hP : Rb P n) (hQ : Rb Q n) (hc : RbC fs (if c then n + 1 else n + 2)) (hcr : c = true → topRed fs = false ∧ fs ≠ []) :
    ∃ (t' : T) (b' : B), SetFar t u s t' ∧ Whole t' b' ∧ b'.isRed = false ∧ (∃ m, Rb b' m) ∧ b'.keys = (plug (bn s u c uv x (bn s w false wv M (bn s d true dv P Q))) fs).keys := by
  obtain ⟨kf1, kf2, kf3, kf4, kf5⟩ := kid_frame h
  simp only at kf1 kf2 kf3 kf4 kf5
  have hW := h.ctx.2.2.1
  obtain ⟨w1, w2, w3, w4⟩ := (Sub_bn ..).1 hW
  have hD := (Sub_bn ..).1 w4
  have kw : t.kid w (!s) = d := by unfold T.kid; rw [w2]; exact (nodeOf_kid ..).2.1
  have ured : (t.nd u).red = c := by rw [← redB_of kf3]; exact kf4
  -- w takes u's color
  have z1 := h.over
  simp only at z1
  have z2 := z1.paint c
  have z3 := z2.paintUp false
  have z4 : Z ((t.paint w c).paint u false) (bn s d true dv P Q) (⟨!s, w, c, wv, M⟩ :: ⟨!s, u, false, uv, x⟩ :: fs) := by
    rw [Z_step]
    show Z _ (bn (!s) w c wv (bn s d true dv P Q) M) _
    have e := bn_swap s w c wv M (bn s d true dv P Q)
    rw [← e]
    exact z3
  have z5 := z4.paint false
  have z6 := (Z_step ..).1 ((Z_step ..).1 z5)
  have z7 : Z (((t.paint w c).paint u false).paint d false) (bn s u false uv x (bn s w c wv M (bn s d false dv P Q))) fs := by
    have e : F.put ⟨!s, u, false, uv, x⟩ (F.put ⟨!s, w, c, wv, M⟩ (bn s d false dv P Q)) = bn s u false uv x (bn s w c wv M (bn s d false dv P Q)) := by
      show bn (!s) u false uv (bn (!s) w c wv (bn s d false dv P Q) M) x = _
      rw [← bn_swap s w, ← bn_swap s u]
    rw [← e]
    exact z6
  obtain ⟨tok, z8⟩ := z7.turn
  have hD' : Rb (bn s d false dv P Q) (n + 1) := (Rb_black ..).2 ⟨n, rfl, hP, hQ⟩
  have hU : Rb (bn s u false uv x M) (n + 1) := (Rb_black ..).2 ⟨n, rfl, hx, hM⟩
  have hB : Rb (bn s w c wv (bn s u false uv x M) (bn s d false dv P Q)) (if c then n + 1 else n + 2) := by
    cases c with
    | true => exact (Rb_red ..).2 ⟨rfl, rfl, hU, hD'⟩
    | false => exact (Rb_black ..).2 ⟨n + 1, rfl, hU, hD'⟩
  obtain ⟨p1, p2⟩ := Rb_plug hB hc (fun e => hcr (by rw [isRed_bn] at e; exact e))
  refine ⟨_, _, ⟨w, d, kf3, kf2, w1, kw, hD.1, ?_, rfl⟩, (Z_plug ..).1 (by rw [ured]; exact z8), p1, p2, ?_⟩
  · rw [ured]; exact tok
  · refine keys_plug ?_
    cases s <;> simp [keys_bn]

/-- Filled for good. -/
theorem settle_all {t : T} {x : B} {s : Bool} {u : Int} {c : Bool} {uv : Int} {fs : List F} {w wv : Int} {M D : B} {n : Nat} (h : Z t x (⟨s, u, c, uv, bn s w false wv M D⟩ :: fs))
    (hx : Rb x n) (hM : Rb M n) (hD : Rb D n) (hc : RbC fs (if c then n + 1 else n + 2)) (hcr : c = true → topRed fs = false ∧ fs ≠ []) (hr : M.isRed = true ∨ D.isRed = true) :
    ∃ (t' : T) (b' : B), Settle t u s t' ∧ Whole t' b' ∧ b'.isRed = false ∧ (∃ m, Rb b' m) ∧ b'.keys = (plug (bn s u c uv x (bn s w false wv M D)) fs).keys := by
  obtain ⟨kf1, kf2, kf3, kf4, kf5⟩ := kid_frame h
  simp only at kf1 kf2 kf3 kf4 kf5
  have hW := h.ctx.2.2.1
  obtain ⟨w1, w2, w3, w4⟩ := (Sub_bn ..).1 hW
  have kw : t.kid w (!s) = D.rid := by unfold T.kid; rw [w2]; exact (nodeOf_kid ..).2.1
  have kw' : t.kid w s = M.rid := by unfold T.kid; rw [w2]; exact (nodeOf_kid ..).1
  cases hDr : D.isRed with
  | true =>
    obtain ⟨d, dv, P, Q, rfl⟩ := red_split hDr s
    obtain ⟨q1, q2, q3, q4⟩ := (Rb_red ..).1 hD
    obtain ⟨t', b', m1, m2⟩ := setfar_all h hx hM q3 q4 hc hcr
    exact ⟨t', b', ⟨w, _, kf3, kf2, w1, kw, w4.ok, .inl ⟨by rw [w4.red]; rfl, m1⟩⟩, m2⟩
  | false =>
    have hMr := hr.resolve_right (by rw [hDr]; decide)
    obtain ⟨m, mv, Q, P, rfl⟩ := red_split hMr (!s)
    obtain ⟨q1, q2, q3, q4⟩ := (Rb_red ..).1 hM
    have hm := ((Sub_bn ..).1 w3).1
    -- the near child is painted, then w, and w is turned
    have z1 := h.over
    simp only at z1
    have z2 : Z t (bn (!s) m true mv Q P) (⟨s, w, false, wv, D⟩ :: ⟨!s, u, c, uv, x⟩ :: fs) := by
      rw [Z_step]
      exact z1
    have z3 := (z2.paint false).paintUp true
    have z4 := (Z_step ..).1 z3
    have z5 : Z ((t.paint m false).paint w true) (bn (!s) w true wv D (bn (!s) m false mv Q P)) (⟨!s, u, c, uv, x⟩ :: fs) := by
      have e : F.put (F.paint ⟨s, w, false, wv, D⟩ true) (bn (!s) m false mv Q P) = bn (!s) w true wv D (bn (!s) m false mv Q P) := by
        show bn s w true wv (bn (!s) m false mv Q P) D = _
        rw [bn_swap s w]
      rw [← e]
      exact z4
    obtain ⟨tok, z6⟩ := z5.turn
    have z7 : Z (((t.paint m false).paint w true).turn w (!s)) x (⟨s, u, c, uv, bn s m false mv P (bn s w true wv Q D)⟩ :: fs) := by
      have z := z6.over
      simp only [Bool.not_not] at z
      have e : bn (!s) m false mv (bn (!s) w true wv D Q) P = bn s m false mv P (bn s w true wv Q D) := by
        rw [bn_swap s m, bn_swap s w]
      rw [e] at z
      exact z
    obtain ⟨t', b', m1, m2, m3, m4, m5⟩ := setfar_all z7 hx q4 q3 hD hc hcr
    refine ⟨t', b', ⟨w, _, kf3, kf2, w1, kw, w4.ok, .inr ⟨by rw [w4.red]; exact hDr, m, kw', hm, tok, m1⟩⟩, m2, m3, m4, ?_⟩
    rw [m5]
    refine keys_plug ?_
    cases s <;> simp [keys_bn]

theorem place_up {t : T} {b : B} {fs : List F} (h : Z t b fs) (hb : b.rid ≠ -1) : t.up b.rid = upOf fs ∧ t.side b.rid = sd fs := by
  cases fs with
  | nil =>
    have e := h.top.2 hb
    refine ⟨e, ?_⟩
    unfold T.side
    rw [e]
    rfl
  | cons f fs => exact ⟨(h.side hb).1, (h.side hb).2.1⟩

/-- Where the other child is not Red. -/
theorem fill_black {t : T} {x : B} {s : Bool} {u : Int} {c : Bool} {uv : Int} {fs : List F} {w wv : Int} {M D : B} {n : Nat} (h : Z t x (⟨s, u, c, uv, bn s w false wv M D⟩ :: fs))
    (hxr : x.isRed = false) (hx : Rb x n) (hM : Rb M n) (hD : Rb D n) (hc : RbC fs (if c then n + 1 else n + 2)) (hcr : c = true → topRed fs = false ∧ fs ≠ [])
    (ih : ∀ (t2 : T), Z t2 (bn s u c uv x (bn s w true wv M D)) fs → RbF (bn s u c uv x (bn s w true wv M D)) (if c then n else n + 1) → Filled t2 (upOf fs) (sd fs) (plug (bn s u c uv x (bn s w true wv M D)) fs).keys) :
    Filled t u s (plug (bn s u c uv x (bn s w false wv M D)) fs).keys := by
  obtain ⟨kf1, kf2, kf3, kf4, kf5⟩ := kid_frame h
  simp only at kf1 kf2 kf3 kf4 kf5
  have hW := h.ctx.2.2.1
  obtain ⟨w1, w2, w3, w4⟩ := (Sub_bn ..).1 hW
  have hk : t.ok (t.kid u s) := by rw [kf1]; exact h.sub.ok
  have hrk : t.redB (t.kid u s) = false := by rw [kf1, h.sub.red]; exact hxr
  have hwr : t.redB w = false := by rw [redB_of w1, w2]; exact (nodeOf_kid ..).2.2.2
  have kw : t.kid w (!s) = D.rid := by unfold T.kid; rw [w2]; exact (nodeOf_kid ..).2.1
  have kw' : t.kid w s = M.rid := by unfold T.kid; rw [w2]; exact (nodeOf_kid ..).1
  have both : ∀ p : Int → Prop, p (t.kid w s) → p (t.kid w (!s)) → p (t.kid w false) ∧ p (t.kid w true) := fun p h1 h2 => by cases s <;> exact ⟨by assumption, by assumption⟩
  have oks := both t.ok (by rw [kw']; exact w3.ok) (by rw [kw]; exact w4.ok)
  by_cases hr : M.isRed = true ∨ D.isRed = true
  · obtain ⟨t', b', m1, m2, m3, m4, m5⟩ := settle_all h hx hM hD hc hcr hr
    have hrr : (t.redB (t.kid w false) || t.redB (t.kid w true)) = true := by
      have e1 : t.redB (t.kid w s) = M.isRed := by rw [kw', w3.red]
      have e2 : t.redB (t.kid w (!s)) = D.isRed := by rw [kw, w4.red]
      rw [Bool.or_eq_true]
      cases s
      · rcases hr with hr | hr
        · exact .inl (e1.trans hr)
        · exact .inr (e2.trans hr)
      · rcases hr with hr | hr
        · exact .inr (e1.trans hr)
        · exact .inl (e2.trans hr)
    exact ⟨0, t', b', .settle 0 t t' u w s kf3 hk hrk kf2 w1 hwr oks.1 oks.2 hrr m1, m2, m3, m4, m5⟩
  · have hMr : M.isRed = false := by simpa using fun e => hr (.inl e)
    have hDr : D.isRed = false := by simpa using fun e => hr (.inr e)
    have z1 := h.over
    simp only at z1
    have z2 := (z1.paint true).over
    simp only [Bool.not_not] at z2
    have z3 := (Z_step ..).1 z2
    have hW' : Rb (bn s w true wv M D) n := (Rb_red ..).2 ⟨hMr, hDr, hM, hD⟩
    have hF : RbF (bn s u c uv x (bn s w true wv M D)) (if c then n else n + 1) := by
      cases c with
      | true => exact (RbF_red ..).2 ⟨hx, hW'⟩
      | false => exact (RbF_black rfl).2 ((Rb_black ..).2 ⟨n, rfl, hx, hW'⟩)
    obtain ⟨k, t', b', m1, m2, m3, m4, m5⟩ := ih _ z3 hF
    have hpl := place_up z3 (show (bn s u c uv x (bn s w true wv M D)).rid ≠ -1 from has_ne kf3)
    have hpl1 : (t.paint w true).up u = upOf fs := hpl.1
    have hpl2 : (t.paint w true).side u = sd fs := hpl.2
    have hrr : (t.redB (t.kid w false) || t.redB (t.kid w true)) = false := by
      have e1 : t.redB (t.kid w s) = false := by rw [kw', w3.red]; exact hMr
      have e2 : t.redB (t.kid w (!s)) = false := by rw [kw, w4.red]; exact hDr
      rw [Bool.or_eq_false_iff]
      cases s
      · exact ⟨e1, e2⟩
      · exact ⟨e2, e1⟩
    refine ⟨k + 1, t', b', .up k t t' u w s kf3 hk hrk kf2 w1 hwr oks.1 oks.2 hrr (by rw [hpl1]; exact z3.ctx.ok) (by rw [hpl1, hpl2]; exact m1), m2, m3, m4, ?_⟩
    rw [m5]
    refine keys_plug ?_
    rw [keys_bn, keys_bn, keys_bn, keys_bn]

/-- A Red node at the place. -/
theorem fill_red {t : T} {x : B} {f : F} {fs : List F} {n : Nat} (h : Z t x (f :: fs)) (hxr : x.isRed = true) (hx : RbF x n) (hc : RbC (f :: fs) (n + 1)) : Filled t f.i f.s (plug x (f :: fs)).keys := by
  obtain ⟨kf1, kf2, kf3, kf4, kf5⟩ := kid_frame h
  obtain ⟨i, v, y, o, rfl⟩ := red_split hxr false
  obtain ⟨q1, q2⟩ := (RbF_red ..).1 hx
  have hi : t.has i := ((Sub_bn ..).1 h.sub).1
  have hb : Rb (bn false i false v y o) (n + 1) := (Rb_black ..).2 ⟨n, rfl, q1, q2⟩
  obtain ⟨p1, p2⟩ := Rb_plug hb hc (fun e => by cases e)
  refine ⟨0, t.paint i false, _, .redp 0 t f.i i f.s kf3 kf1 hi (by rw [redB_of hi, ((Sub_bn ..).1 h.sub).2.1]; exact (nodeOf_kid ..).2.2.2), (Z_plug ..).1 (h.paint false), p1, p2, ?_⟩
  refine keys_plug ?_
  rw [keys_bn, keys_bn]
/-- Filling comes to a right tree. -/
theorem fill_all : (fs : List F) → ∀ {t : T} {x : B} {n : Nat}, Z t x fs → RbF x n → RbC fs (n + 1) → Filled t (upOf fs) (sd fs) (plug x fs).keys
  | [], t, x, n, h, hx, hc => by
    have hroot : t.root = x.rid := h.ctx
    cases hxr : x.isRed with
    | true =>
      obtain ⟨i, v, y, o, rfl⟩ := red_split hxr false
      obtain ⟨q1, q2⟩ := (RbF_red ..).1 hx
      have hi : t.has i := ((Sub_bn ..).1 h.sub).1
      have hne : t.root ≠ -1 := by rw [hroot]; exact has_ne hi
      refine ⟨0, _, bn false i false v y o, .root 0 t false (by rw [hroot]; exact .inr hi), ?_, rfl, ⟨n + 1, (Rb_black ..).2 ⟨n, rfl, q1, q2⟩⟩, ?_⟩
      · rw [if_neg hne, hroot, ← Z_whole]; exact h.paint false
      · show _ = (bn false i true v y o).keys
        rw [keys_bn, keys_bn]
    | false =>
      refine ⟨0, _, x, .root 0 t false (by rw [hroot]; exact h.sub.ok), ?_, hxr, ⟨n, (RbF_black hxr).1 hx⟩, rfl⟩
      have hw := (Z_whole t x).1 h
      by_cases hz : t.root = -1
      · rw [if_pos hz]; exact hw
      · rw [if_neg hz]
        have hi : t.has t.root := by rw [hroot]; exact h.sub.ok.resolve_left (by rw [← hroot]; exact hz)
        rw [paint_same hi (by rw [← redB_of hi, hroot, h.sub.red]; exact hxr)]
        exact hw
  | f :: fs, t, x, n, h, hx, hc => by
    cases hxr : x.isRed with
    | true => exact fill_red h hxr hx hc
    | false =>
      have hxb := (RbF_black hxr).1 hx
      obtain ⟨s, u, c, uv, W⟩ := f
      obtain ⟨c1, c2, c3⟩ := hc
      simp only at c1 c2 c3
      show Filled t u s (plug (bn s u c uv x W) fs).keys
      cases hWr : W.isRed with
      | false =>
        obtain ⟨w, wv, M, D, rfl, hM, hD⟩ := black_split c1 hWr s
        refine fill_black h hxr hxb hM hD c3 (fun e => (c2 e).2) (fun t2 z2 hF => ?_)
        refine fill_all fs z2 hF ?_
        cases c with
        | true => exact c3
        | false => exact c3
      | true =>
        have hcf : c = false := by
          cases hc' : c with
          | false => rfl
          | true => have := (c2 hc').1; rw [hWr] at this; cases this
        subst hcf
        obtain ⟨w, wv, M, D, rfl⟩ := red_split hWr s
        obtain ⟨q1, q2, q3, q4⟩ := (Rb_red ..).1 c1
        obtain ⟨kf1, kf2, kf3, kf4, kf5⟩ := kid_frame h
        simp only at kf1 kf2 kf3 kf4 kf5
        have hW := h.ctx.2.2.1
        obtain ⟨w1, w2, w3, w4⟩ := (Sub_bn ..).1 hW
        have z1 := h.over
        simp only at z1
        have z2 := ((z1.paint false).paintUp true).over
        simp only [F.paint, Bool.not_not] at z2
        have z3 : Z ((t.paint w false).paint u true) (bn s u true uv x (bn s w false wv M D)) fs := (Z_step ..).1 z2
        obtain ⟨tok, z4⟩ := z3.turn
        have z5 : Z (((t.paint w false).paint u true).turn u s) x (⟨s, u, true, uv, M⟩ :: ⟨s, w, false, wv, D⟩ :: fs) := by
          rw [Z_step, Z_step]
          exact z4
        obtain ⟨m, mv, M1, M2, hMe, hM1, hM2⟩ := black_split q3 q1 s
        subst hMe
        obtain ⟨kg1, kg2, kg3, kg4, kg5⟩ := kid_frame z5
        simp only at kg1 kg2 kg3 kg4 kg5
        have hMo := z5.ctx.2.2.1
        obtain ⟨k, t', b', m1, m2, m3, m4, m5⟩ := fill_black z5 hxr hxb hM1 hM2 ⟨q4, (fun e => by cases e), c3⟩ (fun _ => ⟨rfl, by simp⟩) (fun t2 zz hF => by
          refine fill_red zz rfl hF ?_
          exact ⟨q4, (fun e => by cases e), c3⟩)
        refine ⟨k + 1, t', b', .turn k t t' u w s kf3 (by rw [kf1]; exact h.sub.ok) (by rw [kf1, h.sub.red]; exact hxr) kf2 w1 (by rw [redB_of w1, w2]; exact (nodeOf_kid ..).2.2.2) tok (by rw [kg1, z5.sub.red]; exact hxr) (by rw [kg2, hMo.red]; rfl) m1, m2, m3, m4, ?_⟩
        rw [m5]
        show (plug (bn s w false wv (bn s u true uv x (bn s m false mv M1 M2)) D) fs).keys = _
        refine keys_plug ?_
        cases s <;> simp [keys_bn]
end Tr
end Go.Proofs.Ytgjacmkedgbneaa

namespace Go.Proofs.Ytgjacmkedgbneaa
namespace Tr
open Wd Tn Ky

/-- All of it but the node e, seen from a place. -/
structure ZE (t : T) (b : B) (fs : List F) (e : Int) : Prop where
  len : t.ns.length ≤ 64
  sub : Sub t b (upOf fs)
  ctx : SubC t fs b.rid
  nod : (b.ids ++ idsC fs).Nodup
  he : t.has e
  out : e ∉ b.ids ∧ e ∉ idsC fs
  rest : ∀ i, t.has i → i ≠ e → i ∉ b.ids → i ∉ idsC fs → t.nd i = nE
theorem ZE_step (t : T) (b : B) (f : F) (fs : List F) (e : Int) : ZE t b (f :: fs) e ↔ ZE t (f.put b) fs e := by
  have hp : (b.ids ++ idsC (f :: fs)).Perm ((f.put b).ids ++ idsC fs) := by
    have h1 := (ids_bn f.s f.i f.c f.v b f.o).symm.append_right (idsC fs)
    have e : b.ids ++ idsC (f :: fs) = b.ids ++ f.i :: f.o.ids ++ idsC fs := by simp [idsC]
    rw [e]
    exact h1
  have hm : ∀ i, (i ∉ (f.put b).ids ∧ i ∉ idsC fs) ↔ (i ∉ b.ids ∧ i ∉ idsC (f :: fs)) := fun i => by
    have := hp.mem_iff (a := i)
    rw [List.mem_append, List.mem_append] at this
    rw [← not_or, ← not_or, this]
  constructor
  · intro h
    obtain ⟨h1, h2, h3, h4⟩ := h.ctx
    exact ⟨h.len, (Sub_bn ..).2 ⟨h1, h2, h.sub, h3⟩, h4, hp.nodup_iff.1 h.nod, h.he, (hm e).2 h.out, fun i hi n0 n1 n2 => h.rest i hi n0 ((hm i).1 ⟨n1, n2⟩).1 ((hm i).1 ⟨n1, n2⟩).2⟩
  · intro h
    obtain ⟨h1, h2, h3, h4⟩ := (Sub_bn ..).1 h.sub
    exact ⟨h.len, h3, ⟨h1, h2, h4, h.ctx⟩, hp.nodup_iff.2 h.nod, h.he, (hm e).1 h.out, fun i hi n0 n1 n2 => h.rest i hi n0 ((hm i).2 ⟨n1, n2⟩).1 ((hm i).2 ⟨n1, n2⟩).2⟩
theorem ZE_plug (t : T) (gs : List F) (e : Int) : ∀ (b : B) (fs : List F), ZE t b (gs ++ fs) e ↔ ZE t (plug b gs) fs e := by
  induction gs with
  | nil => intro b fs; rfl
  | cons g gs ih => intro b fs; rw [List.cons_append, ZE_step, ih]; rfl
theorem Z_plug2 (t : T) (gs : List F) : ∀ (b : B) (fs : List F), Z t b (gs ++ fs) ↔ Z t (plug b gs) fs := by
  induction gs with
  | nil => intro b fs; rfl
  | cons g gs ih => intro b fs; rw [List.cons_append, Z_step, ih]; rfl
theorem plug_append (gs : List F) : ∀ (b : B) (fs : List F), plug b (gs ++ fs) = plug (plug b gs) fs := by
  induction gs with
  | nil => intro b fs; rfl
  | cons g gs ih => intro b fs; exact ih _ _
/-- What is left out is made empty. -/
theorem ZE.drop {t : T} {b : B} {fs : List F} {e : Int} (h : ZE t b fs e) : Z (t.put e nE) b fs := by
  have hl : (t.put e nE).ns.length = t.ns.length := put_len _ _ _
  have q : ∀ j, 0 ≤ j → j ≠ e → (t.put e nE).nd j = t.nd j := fun j hj hne => by rw [nd_put h.he _ hj, if_neg hne]
  refine ⟨by rw [hl]; exact h.len, h.sub.congr hl (fun j hj => q j (h.sub.has j hj).1.1 (fun w => h.out.1 (by rw [← w]; exact hj))), SubC.congr hl rfl (fun j hj => q j (h.ctx.has j hj).1 (fun w => h.out.2 (by rw [← w]; exact hj))) h.ctx, h.nod, fun j hj m1 m2 => ?_⟩
  have hj' := (has_len hl).1 hj
  by_cases hje : j = e
  · subst hje; exact nd_put_same h.he _
  · rw [q j hj'.1 hje]; exact h.rest j hj' hje m1 m2
/-- A node with one child, or none, is left out. -/
theorem Z.splice {t : T} {s : Bool} {z : Int} {c : Bool} {v : Int} {x : B} {fs : List F} (h : Z t (bn s z c v x .L) fs) :
    ZE (t.hang (upOf fs) (sd fs) x.rid) x fs z ∧ (t.hang (upOf fs) (sd fs) x.rid).nd z = t.nd z := by
  obtain ⟨h1, h2, h3, -⟩ := (Sub_bn ..).1 h.sub
  have hu := h.ctx.ok
  have hl : (t.hang (upOf fs) (sd fs) x.rid).ns.length = t.ns.length := hang_len _ _ _ _
  have hn := (((ids_bn s z c v x .L).append_right (idsC fs)).nodup_iff).1 h.nod
  rw [List.append_assoc, List.nodup_append] at hn
  obtain ⟨nX, n2, n3⟩ := hn
  have n2' : (z :: idsC fs).Nodup := by simpa [B.ids] using n2
  obtain ⟨n4, nC⟩ := List.nodup_cons.1 n2'
  have n3' : ∀ a ∈ x.ids, a ≠ z ∧ a ∉ idsC fs := fun a ha => ⟨n3 a ha z (by simp), fun w => n3 a ha a (by simp [w]) rfl⟩
  have hxm := rid_mem x
  have hum := upOf_mem fs
  have hzx : z ≠ x.rid := fun e => hxm.elim (fun w => has_ne h1 (e.trans w)) (fun w => (n3' x.rid w).1 e.symm)
  have hzu : z ≠ upOf fs := fun e => hum.elim (fun w => has_ne h1 (e.trans w)) (fun w => n4 (by rw [e]; exact w))
  have nd1 : ∀ {j : Int}, 0 ≤ j → (t.hang (upOf fs) (sd fs) x.rid).nd j = _ := fun hj => nd_hang hu h3.ok (sd fs) hj
  have other : ∀ j, 0 ≤ j → j ≠ x.rid → j ≠ upOf fs → (t.hang (upOf fs) (sd fs) x.rid).nd j = t.nd j := fun j hj e1 e2 => by rw [nd1 hj, if_neg e1, if_neg e2]
  have hxu : x.rid ≠ -1 → x.rid ≠ upOf fs := fun w e => hum.elim (fun q => w (e.trans q)) (fun q => (n3' x.rid (hxm.resolve_left w)).2 (by rw [e]; exact q))
  refine ⟨⟨by rw [hl]; exact h.len, ?_, ?_, ?_, (has_len hl).2 h1, ⟨fun w => (n3' z w).1 rfl, n4⟩, fun j hj m0 m1 m2 => ?_⟩, other z h1.1 hzx hzu⟩
  · refine h3.congrUp hl nX (fun j hj hne => other j (h3.has j hj).1.1 hne (fun e => hum.elim (fun q => by have := (h3.has j hj).1.1; omega) (fun q => (n3' j hj).2 (by rw [e]; exact q)))) (fun hne => ?_)
    have h0 := (h3.ok.resolve_left hne).1
    rw [nd1 h0, if_pos rfl, if_neg (hxu hne)]
  · refine SubC.put hl nC (fun j hj hne => other j (h.ctx.has j hj).1 (fun e => ?_) hne) (root_hang ..) (fun f gs e => ?_) h.ctx
    · rcases hxm with w | w
      · have := (h.ctx.has j hj).1; omega
      · exact (n3' x.rid w).2 (by rw [← e]; exact hj)
    · subst e
      have hfi := h.ctx.1
      have hne : f.i ≠ x.rid := fun e => hxm.elim (fun w => has_ne hfi (e.trans w)) (fun w => (n3' x.rid w).2 (by rw [← e]; simp [idsC]))
      have q := nd1 (j := f.i) hfi.1
      rw [if_neg hne, if_pos (show f.i = upOf (f :: gs) from rfl)] at q
      exact q
  · rw [List.nodup_append]; exact ⟨nX, nC, fun a ha b hb e => (n3' a ha).2 (by rw [e]; exact hb)⟩
  · have hj' := (has_len hl).1 hj
    rw [other j hj'.1 (fun e => hxm.elim (fun w => has_ne hj' (e.trans w)) (fun w => m1 (by rw [e]; exact w))) (fun e => hum.elim (fun w => has_ne hj' (e.trans w)) (fun w => m2 (by rw [e]; exact w)))]
    refine h.rest j hj' (fun w => ?_) m2
    have := (ids_bn s z c v x .L).mem_iff.1 w
    simp only [List.mem_append, List.mem_cons, B.ids, List.not_mem_nil, or_false] at this
    exact this.elim m1 m0

set_option maxHeartbeats 1000000 in
/-- y, which is left out, takes z's place. -/
theorem ZE.repl {t : T} {z : Int} {c : Bool} {v : Int} {R A : B} {fs : List F} {y : Int} (h : ZE t (bn true z c v R A) fs y) (hi : (t.nd y).inn = true) :
    let r2 := t.hang (t.up z) (t.side z) y
    let r3 := r2.hang y false (r2.kid z false)
    let r4 := r3.hang y true (r3.kid z true)
    t.ok (t.up z) ∧ r2.ok (r2.kid z false) ∧ r3.ok (r3.kid z true) ∧ ZE (r4.paint y (r4.nd z).red) (bn true y c (t.nd y).v R A) fs z := by
  intro r2 r3 r4
  obtain ⟨h1, h2, hR, hA⟩ := (Sub_bn ..).1 h.sub
  have hu := h.ctx.ok
  obtain ⟨u, hu0⟩ : ∃ u, upOf fs = u := ⟨_, rfl⟩
  obtain ⟨r, hr0⟩ : ∃ r, R.rid = r := ⟨_, rfl⟩
  obtain ⟨a, ha0⟩ : ∃ a, A.rid = a := ⟨_, rfl⟩
  obtain ⟨sz, hsz⟩ : ∃ s, t.side z = s := ⟨_, rfl⟩
  rw [hr0, ha0, hu0] at h2
  rw [hu0] at hu
  have hro := hR.ok
  have hao := hA.ok
  rw [hr0] at hro
  rw [ha0] at hao
  have hn := (((ids_bn true z c v R A).append_right (idsC fs)).nodup_iff).1 h.nod
  rw [List.append_assoc, List.cons_append, List.nodup_append] at hn
  obtain ⟨nR, n2, n3⟩ := hn
  obtain ⟨n4, n5⟩ := List.nodup_cons.1 n2
  rw [List.nodup_append] at n5
  obtain ⟨nA, nC, n6⟩ := n5
  have yo : y ∉ R.ids ∧ y ≠ z ∧ y ∉ A.ids ∧ y ∉ idsC fs := by
    have := h.out.1
    rw [(ids_bn true z c v R A).mem_iff] at this
    simp only [List.mem_append, List.mem_cons, not_or] at this
    exact ⟨this.1, this.2.1, this.2.2, h.out.2⟩
  have hrm : r = -1 ∨ r ∈ R.ids := by rw [← hr0]; exact rid_mem R
  have ham : a = -1 ∨ a ∈ A.ids := by rw [← ha0]; exact rid_mem A
  have hum : u = -1 ∨ u ∈ idsC fs := by rw [← hu0]; exact upOf_mem fs
  have hy := h.he
  have y0 := hy.1
  have z0 := h1.1
  have hyr : y ≠ r := fun e => hrm.elim (fun w => by omega) (fun w => yo.1 (by rw [e]; exact w))
  have hya : y ≠ a := fun e => ham.elim (fun w => by omega) (fun w => yo.2.2.1 (by rw [e]; exact w))
  have hyu : y ≠ u := fun e => hum.elim (fun w => by omega) (fun w => yo.2.2.2 (by rw [e]; exact w))
  have hzr : z ≠ r := fun e => hrm.elim (fun w => by omega) (fun w => n3 r w z (by simp) e.symm)
  have hza : z ≠ a := fun e => ham.elim (fun w => by omega) (fun w => n4 (by rw [e]; simp [w]))
  have hzu : z ≠ u := fun e => hum.elim (fun w => by omega) (fun w => n4 (by rw [e]; simp [w]))
  have hra : r ≠ -1 → r ≠ a := fun q e => ham.elim (fun w => q (e.trans w)) (fun w => n3 r (hrm.resolve_left q) a (by simp [w]) e)
  have hru : r ≠ -1 → r ≠ u := fun q e => hum.elim (fun w => q (e.trans w)) (fun w => n3 r (hrm.resolve_left q) u (by simp [w]) e)
  have hau : a ≠ -1 → a ≠ u := fun q e => hum.elim (fun w => q (e.trans w)) (fun w => n6 a (ham.resolve_left q) u w e)
  have har : a ≠ -1 → a ≠ r := fun q e => hrm.elim (fun w => q (e.trans w)) (fun w => n3 r w a (by simp [ham.resolve_left q]) e.symm)
  have hua : u ≠ -1 → u ≠ a := fun q e => hau (fun w => q (e.trans w)) e.symm
  have hur : u ≠ -1 → u ≠ r := fun q e => hru (fun w => q (e.trans w)) e.symm
  have ez : t.up z = u := by unfold T.up; rw [h2]; rfl
  have l2 : r2.ns.length = t.ns.length := hang_len _ _ _ _
  have l3 : r3.ns.length = t.ns.length := (hang_len _ _ _ _).trans l2
  have l4 : r4.ns.length = t.ns.length := (hang_len _ _ _ _).trans l3
  have e2 : r2 = t.hang u sz y := by show t.hang (t.up z) (t.side z) y = _; rw [ez, hsz]
  have nd2 : ∀ {j : Int}, 0 ≤ j → r2.nd j = if j = y then (if j = u then (t.nd j).setKid sz y else t.nd j).setUp u else (if j = u then (t.nd j).setKid sz y else t.nd j) := fun {j} hj => by
    have := nd_hang (t := t) hu (.inr hy) sz hj
    rw [← e2] at this
    exact this
  have z2 : r2.nd z = t.nd z := by rw [nd2 z0, if_neg (fun e => yo.2.1 e.symm), if_neg hzu]
  have k2 : r2.kid z false = a := by unfold T.kid; rw [z2, h2]; rfl
  have e3 : r3 = r2.hang y false a := by show r2.hang y false (r2.kid z false) = _; rw [k2]
  have nd3 : ∀ {j : Int}, 0 ≤ j → r3.nd j = if j = a then (if j = y then (r2.nd j).setKid false a else r2.nd j).setUp y else (if j = y then (r2.nd j).setKid false a else r2.nd j) := fun {j} hj => by
    have := nd_hang (t := r2) (.inr ((has_len l2).2 hy)) ((ok_len l2).2 hao) false hj
    rw [← e3] at this
    exact this
  have z3 : r3.nd z = t.nd z := by rw [nd3 z0, if_neg hza, if_neg (fun e => yo.2.1 e.symm), z2]
  have k3 : r3.kid z true = r := by unfold T.kid; rw [z3, h2]; rfl
  have e4 : r4 = r3.hang y true r := by show r3.hang y true (r3.kid z true) = _; rw [k3]
  have nd4 : ∀ {j : Int}, 0 ≤ j → r4.nd j = if j = r then (if j = y then (r3.nd j).setKid true r else r3.nd j).setUp y else (if j = y then (r3.nd j).setKid true r else r3.nd j) := fun {j} hj => by
    have := nd_hang (t := r3) (.inr ((has_len l3).2 hy)) ((ok_len l3).2 hro) true hj
    rw [← e4] at this
    exact this
  have z4 : r4.nd z = t.nd z := by rw [nd4 z0, if_neg hzr, if_neg (fun e => yo.2.1 e.symm), z3]
  have c4 : (r4.nd z).red = c := by rw [z4, h2]; rfl
  refine ⟨by rw [ez]; exact hu, by rw [k2]; exact (ok_len l2).2 hao, by rw [k3]; exact (ok_len l3).2 hro, ?_⟩
  rw [c4]
  have l5 : (r4.paint y c).ns.length = t.ns.length := (paint_len _ _ _).trans l4
  have nd5 : ∀ {j : Int}, 0 ≤ j → (r4.paint y c).nd j = _ := fun hj => nd_put (t := r4) ((has_len l4).2 hy) ((r4.nd y).setRed c) hj
  have other : ∀ j, 0 ≤ j → j ≠ y → j ≠ r → j ≠ a → j ≠ u → (r4.paint y c).nd j = t.nd j := fun j hj q1 q2 q3 q4 => by
    rw [nd5 hj, if_neg q1, nd4 hj, if_neg q2, if_neg q1, nd3 hj, if_neg q3, if_neg q1, nd2 hj, if_neg q1, if_neg q4]
  have ey : (r4.paint y c).nd y = nodeOf true c (t.nd y).v r a u := by
    rw [nd5 y0, if_pos rfl, nd4 y0, if_neg hyr, if_pos rfl, nd3 y0, if_neg hya, if_pos rfl, nd2 y0, if_pos rfl, if_neg hyu]
    unfold N.setRed N.setKid N.setUp nodeOf
    simp [hi]
  have er : r ≠ -1 → (r4.paint y c).nd r = (t.nd r).setUp y := fun q => by
    have r0 := (hro.resolve_left q).1
    rw [nd5 r0, if_neg (fun e => hyr e.symm), nd4 r0, if_pos rfl, if_neg (fun e => hyr e.symm), nd3 r0, if_neg (hra q), if_neg (fun e => hyr e.symm), nd2 r0, if_neg (fun e => hyr e.symm), if_neg (hru q)]
  have ea : a ≠ -1 → (r4.paint y c).nd a = (t.nd a).setUp y := fun q => by
    have a0 := (hao.resolve_left q).1
    rw [nd5 a0, if_neg (fun e => hya e.symm), nd4 a0, if_neg (har q), if_neg (fun e => hya e.symm), nd3 a0, if_pos rfl, if_neg (fun e => hya e.symm), nd2 a0, if_neg (fun e => hya e.symm), if_neg (hau q)]
  have eu : u ≠ -1 → (r4.paint y c).nd u = (t.nd u).setKid sz y := fun q => by
    have u0 := (hu.resolve_left q).1
    rw [nd5 u0, if_neg (fun e => hyu e.symm), nd4 u0, if_neg (hur q), if_neg (fun e => hyu e.symm), nd3 u0, if_neg (hua q), if_neg (fun e => hyu e.symm), nd2 u0, if_neg (fun e => hyu e.symm), if_pos rfl]
  have eroot : (r4.paint y c).root = if u = -1 then y else t.root := by
    show r4.root = _
    rw [e4, root_hang, if_neg (by omega), e3, root_hang, if_neg (by omega), e2, root_hang]
  have ctx0 := h.ctx
  have hzs : ∀ f gs, fs = f :: gs → sz = f.s := fun f gs e => by
    subst e
    have zz : t.side z = f.s := by
      have hfi := ctx0.1
      have hfz : f.i = u := hu0
      unfold T.side
      rw [ez, ← hfz, decide_eq_true (has_ne hfi), Bool.true_and]
      have hk : t.kid f.i true = if f.s then z else f.o.rid := by unfold T.kid N.kid; rw [ctx0.2.1]; rfl
      rw [hk]
      cases hs : f.s
      · simp only [Bool.false_eq_true, if_false, decide_eq_false_iff_not]
        intro e
        rcases rid_mem f.o with w | w
        · omega
        · exact n4 (by rw [← e]; simp [idsC, w])
      · simp
    exact hsz.symm.trans zz
  generalize r4.paint y c = t' at l5 other ey er ea eu eroot
  have hz' : t'.nd z = t.nd z := other z z0 (fun e => yo.2.1 e.symm) hzr hza hzu
  refine ⟨by rw [l5]; exact h.len, (Sub_bn ..).2 ⟨(has_len l5).2 hy, by rw [ey, hr0, ha0, hu0], ?_, ?_⟩, ?_, ?_, (has_len l5).2 h1, ?_, fun j hj m0 m1 m2 => ?_⟩
  · refine hR.congrUp l5 nR (fun j hj hne => ?_) (fun hne => by rw [hr0] at hne ⊢; exact er hne)
    rw [hr0] at hne
    have j0 := (hR.has j hj).1.1
    exact other j j0 (fun e => yo.1 (by rw [← e]; exact hj)) hne (fun e => ham.elim (fun w => by omega) (fun w => n3 j hj a (by simp [w]) e)) (fun e => hum.elim (fun w => by omega) (fun w => n3 j hj u (by simp [w]) e))
  · refine hA.congrUp l5 nA (fun j hj hne => ?_) (fun hne => by rw [ha0] at hne ⊢; exact ea hne)
    rw [ha0] at hne
    have j0 := (hA.has j hj).1.1
    exact other j j0 (fun e => yo.2.2.1 (by rw [← e]; exact hj)) (fun e => hrm.elim (fun w => by omega) (fun w => n3 r w j (by simp [hj]) e.symm)) hne (fun e => hum.elim (fun w => by omega) (fun w => n6 j hj u w e))
  · refine SubC.put l5 nC (fun j hj hne => ?_) (by rw [hu0]; exact eroot) (fun f gs e => ?_) h.ctx
    · rw [hu0] at hne
      have j0 := (h.ctx.has j hj).1
      exact other j j0 (fun e => yo.2.2.2 (by rw [← e]; exact hj)) (fun e => hrm.elim (fun w => by omega) (fun w => n3 r w j (by simp [hj]) e.symm)) (fun e => ham.elim (fun w => by omega) (fun w => n6 a w j hj e.symm)) hne
    · have hs := hzs f gs e
      subst e
      have hfz : f.i = u := hu0
      rw [hfz]
      have q := eu (by rw [← hfz]; exact has_ne h.ctx.1)
      rw [hs] at q
      exact q
  · refine (((ids_bn true y c (t.nd y).v R A).append_right (idsC fs)).nodup_iff).2 ?_
    rw [List.append_assoc, List.cons_append, List.nodup_append]
    refine ⟨nR, List.nodup_cons.2 ⟨fun w => (List.mem_append.1 w).elim yo.2.2.1 yo.2.2.2, List.nodup_append.2 ⟨nA, nC, n6⟩⟩, fun p hp q hq e => ?_⟩
    rcases List.mem_cons.1 hq with rfl | hq
    · exact yo.1 (by rw [← e]; exact hp)
    · exact n3 p hp q (List.mem_cons_of_mem _ hq) e
  · refine ⟨fun w => ?_, fun w => n4 (List.mem_append.2 (.inr w))⟩
    have := (ids_bn true y c (t.nd y).v R A).mem_iff.1 w
    simp only [List.mem_append, List.mem_cons] at this
    rcases this with w | w | w
    · exact n3 z w z (by simp) rfl
    · exact yo.2.1 w.symm
    · exact n4 (List.mem_append.2 (.inl w))
  · have hj' := (has_len l5).1 hj
    have hnm : j ∉ R.ids ∧ j ≠ y ∧ j ∉ A.ids := by
      rw [(ids_bn true y c (t.nd y).v R A).mem_iff] at m1
      simp only [List.mem_append, List.mem_cons, not_or] at m1
      exact m1
    have j0 := hj'.1
    rw [other j j0 hnm.2.1 (fun e => hrm.elim (fun w => by omega) (fun w => hnm.1 (by rw [e]; exact w))) (fun e => ham.elim (fun w => by omega) (fun w => hnm.2.2 (by rw [e]; exact w))) (fun e => hum.elim (fun w => by omega) (fun w => m2 (by rw [e]; exact w)))]
    refine h.rest j hj' hnm.2.1 (fun w => ?_) m2
    have := (ids_bn true z c v R A).mem_iff.1 w
    simp only [List.mem_append, List.mem_cons] at this
    rcases this with w | w | w
    · exact hnm.1 w
    · exact m0 w
    · exact hnm.2.2 w
end Tr
end Go.Proofs.Ytgjacmkedgbneaa

namespace Go.Proofs.Ytgjacmkedgbneaa
namespace Tr
open Wd Tn Ky

/-- One step down, with the colors. -/
theorem step_down {fs : List F} {s : Bool} {i : Int} {c : Bool} {v : Int} {x o : B} {n : Nat} (hb : Rb (bn s i c v x o) n) (hc : RbC fs n) (hcr : c = true → topRed fs = false ∧ fs ≠ []) :
    ∃ n', Rb x n' ∧ RbC (⟨s, i, c, v, o⟩ :: fs) n' ∧ (x.isRed = true → topRed (⟨s, i, c, v, o⟩ :: fs) = false ∧ (⟨s, i, c, v, o⟩ :: fs) ≠ []) := by
  cases c with
  | true =>
    obtain ⟨q1, q2, q3, q4⟩ := (Rb_red ..).1 hb
    exact ⟨n, q3, ⟨q4, fun _ => ⟨q2, (hcr rfl).1, (hcr rfl).2⟩, hc⟩, fun e => by rw [q1] at e; cases e⟩
  | false =>
    obtain ⟨n', rfl, q3, q4⟩ := (Rb_black ..).1 hb
    exact ⟨n', q3, ⟨q4, (fun e => by cases e), hc⟩, fun _ => ⟨rfl, by simp⟩⟩
/-- A node is found. -/
theorem find_all {t : T} {z : Int} : (b : B) → ∀ {fs : List F} {n : Nat}, Z t b fs → Rb b n → RbC fs n → (b.isRed = true → topRed fs = false ∧ fs ≠ []) → z ∈ b.ids →
    ∃ (fs' : List F) (c : Bool) (v : Int) (kk : Bool → B) (n' : Nat), Z t (.N z c v kk) fs' ∧ plug (.N z c v kk) fs' = plug b fs ∧ Rb (.N z c v kk) n' ∧ RbC fs' n' ∧ (c = true → topRed fs' = false ∧ fs' ≠ [])
  | .L, _, _, _, _, _, _, hz => by cases hz
  | .N i c v kk, fs, n, h, hb, hc, hcr, hz => by
    have go : ∀ s : Bool, z ∈ (kk s).ids → ∃ (fs' : List F) (c' : Bool) (v' : Int) (kk' : Bool → B) (n' : Nat), Z t (.N z c' v' kk') fs' ∧ plug (.N z c' v' kk') fs' = plug (.N i c v kk) fs ∧ Rb (.N z c' v' kk') n' ∧ RbC fs' n' ∧ (c' = true → topRed fs' = false ∧ fs' ≠ []) := fun s hs => by
      have he := bn_eta s i c v kk
      have hz' : Z t (kk s) (⟨s, i, c, v, kk (!s)⟩ :: fs) := by
        rw [Z_step]
        show Z t (bn s i c v (kk s) (kk (!s))) fs
        rw [← he]; exact h
      rw [he] at hb
      obtain ⟨n', r1, r2, r3⟩ := step_down hb hc hcr
      obtain ⟨fs', c', v', kk', m, a1, a2, a3⟩ := find_all (kk s) hz' r1 r2 r3 hs
      refine ⟨fs', c', v', kk', m, a1, ?_, a3⟩
      rw [a2]
      show plug (bn s i c v (kk s) (kk (!s))) fs = _
      rw [← he]
    simp only [B.ids, List.mem_append, List.mem_cons] at hz
    rcases hz with hz | rfl | hz
    · exact go false hz
    · exact ⟨fs, c, v, kk, n, h, rfl, hb, hc, hcr⟩
    · exact go true hz
/-- The one that is come to by Left. -/
theorem left_all {t : T} : (b : B) → b ≠ .L → ∀ {fs : List F} {n : Nat}, Z t b fs → Rb b n → RbC fs n → (b.isRed = true → topRed fs = false ∧ fs ≠ []) →
    ∃ (k : Nat) (y : Int) (cy : Bool) (vy : Int) (x : B) (gs : List F) (n' : Nat), Leftmost t k b.rid y ∧ Z t (bn true y cy vy x .L) (gs ++ fs) ∧ plug (bn true y cy vy x .L) gs = b ∧ (∀ g ∈ gs, g.s = false) ∧ Rb (bn true y cy vy x .L) n' ∧ RbC (gs ++ fs) n' ∧ (cy = true → topRed (gs ++ fs) = false ∧ gs ++ fs ≠ [])
  | .L, hne, _, _, _, _, _, _ => absurd rfl hne
  | .N i c v kk, _, fs, n, h, hb, hc, hcr => by
    have hi : t.has i := h.sub.1
    have hkid : t.kid i false = (kk false).rid := by unfold T.kid N.kid; rw [h.sub.2.1]; rfl
    by_cases hl : kk false = .L
    · have e : B.N i c v kk = bn true i c v (kk true) .L := by rw [bn_eta true i c v kk]; simp [hl]
      refine ⟨0, i, c, v, kk true, [], n, .stop 0 i hi (by rw [hkid, hl]; rfl), by rw [← e]; exact h, e.symm, by simp, by rw [← e]; exact hb, hc, hcr⟩
    · have he := bn_eta false i c v kk
      have hz' : Z t (kk false) (⟨false, i, c, v, kk (!false)⟩ :: fs) := by
        rw [Z_step]
        show Z t (bn false i c v (kk false) (kk (!false))) fs
        rw [← he]; exact h
      rw [he] at hb
      obtain ⟨n', r1, r2, r3⟩ := step_down hb hc hcr
      obtain ⟨k, y, cy, vy, x, gs, m, a1, a2, a3, a4, a5, a6, a7⟩ := left_all (kk false) hl hz' r1 r2 r3
      have hne : t.kid i false ≠ -1 := by
        rw [hkid]
        cases hk : kk false with
        | L => exact absurd hk hl
        | N i' c' v' k' => have := h.sub.2.2.1; rw [hk] at this; exact has_ne this.1
      have ea : gs ++ [⟨false, i, c, v, kk (!false)⟩] ++ fs = gs ++ ⟨false, i, c, v, kk (!false)⟩ :: fs := by simp
      refine ⟨k + 1, y, cy, vy, x, gs ++ [⟨false, i, c, v, kk (!false)⟩], m, .step k i y hi hne (by rw [hkid]; exact a1), by rw [ea]; exact a2, ?_, fun g hg => ?_, a5, by rw [ea]; exact a6, by rw [ea]; exact a7⟩
      · rw [plug_append, a3]
        show bn false i c v (kk false) (kk (!false)) = _
        rw [← he]
      · rcases List.mem_append.1 hg with hg | hg
        · exact a4 g hg
        · simp at hg; rw [hg]
theorem keysL_left {gs : List F} (h : ∀ g ∈ gs, g.s = false) : keysL gs = [] := by
  induction gs with
  | nil => rfl
  | cons g gs ih => simp [keysL, h g (by simp), ih (fun g' hg => h g' (by simp [hg]))]
/-- Another node of the same color in a frame. -/
theorem RbC_swap {gs fs : List F} {s c : Bool} {i i' v v' : Int} {o : B} : ∀ {n : Nat}, RbC (gs ++ ⟨s, i, c, v, o⟩ :: fs) n → RbC (gs ++ ⟨s, i', c, v', o⟩ :: fs) n := by
  induction gs with
  | nil => intro n h; exact h
  | cons g gs ih =>
    intro n h
    obtain ⟨h1, h2, h3⟩ := h
    refine ⟨h1, fun e => ?_, ih h3⟩
    obtain ⟨q1, q2, -⟩ := h2 e
    refine ⟨q1, ?_, by simp⟩
    cases gs with
    | nil => exact q2
    | cons g' gs' => exact q2
theorem mem_idsC (gs : List F) (f : F) (fs : List F) : f.i ∈ idsC (gs ++ f :: fs) := by
  induction gs with
  | nil => simp [idsC]
  | cons g gs ih => simp only [List.cons_append, idsC, List.mem_cons, List.mem_append]; exact .inr (.inr ih)
/-- A right tree, and one key less. -/
theorem del_all {m : Int} {t : T} {b : B} {z : Int} (hw : Whole t b) (hr : RightB m b) (hz : t.has z) (hi : (t.nd z).inn = true) :
    ∃ (t' : T) (b' : B), Remove t z t' ∧ Whole t' b' ∧ RightB m b' ∧ ∃ l v r, b.keys = l ++ (v, z) :: r ∧ b'.keys = l ++ r := by
  obtain ⟨r1, r2, r3⟩ := hr
  obtain ⟨N0, hN0⟩ := (plain_iff b).1.1 r3
  have hmem : z ∈ b.ids := by
    refine Classical.byContradiction fun hn => ?_
    have := hw.rest z hz hn
    rw [this] at hi
    cases hi
  obtain ⟨fs, c, v, kk, n, h, hpl, hb, hc, hcr⟩ := find_all b ((Z_whole t b).2 hw) hN0 trivial (fun e => by rw [r1] at e; cases e) hmem
  have hup := place_up h (has_ne hz)
  have hup1 : t.up z = upOf fs := hup.1
  have hup2 : t.side z = sd fs := hup.2
  have hred : (t.nd z).red = c := by rw [h.sub.2.1]
  have hkl : t.kid z false = (kk false).rid := by unfold T.kid N.kid; rw [h.sub.2.1]; rfl
  have hkr : t.kid z true = (kk true).rid := by unfold T.kid N.kid; rw [h.sub.2.1]; rfl
  have huo : t.ok (t.up z) := by rw [hup1]; exact h.ctx.ok
  have ne_of : ∀ s : Bool, kk s ≠ .L → (kk s).rid ≠ -1 := fun s hs => by
    have hsub : Sub t (kk s) z := by cases s; exact h.sub.2.2.1; exact h.sub.2.2.2
    cases hk : kk s with
    | L => exact absurd hk hs
    | N i' c' v' k' => rw [hk] at hsub; exact has_ne hsub.1
  -- what follows of the tree that comes out
  have finish : ∀ (t' : T) (b' : B) (l r : List K), Remove t z t' → Whole t' b' → b'.isRed = false → (∃ mm, Rb b' mm) → b.keys = l ++ (v, z) :: r → b'.keys = l ++ r →
      ∃ (t' : T) (b' : B), Remove t z t' ∧ Whole t' b' ∧ RightB m b' ∧ ∃ l v r, b.keys = l ++ (v, z) :: r ∧ b'.keys = l ++ r := fun t' b' l r q1 q2 q3 q4 q5 q6 => by
    refine ⟨t', b', q1, q2, ⟨q3, ?_, (plain_iff b').1.2 q4⟩, l, v, r, q5, q6⟩
    rw [q6]
    rw [q5] at r2
    unfold okK at *
    exact r2.sublist (List.Sublist.append_left (List.sublist_cons_self _ _) _)
  have hkeys : b.keys = keysL fs ++ ((kk false).keys ++ (v, z) :: (kk true).keys) ++ keysR fs := by
    have e : plug (.N z c v kk) fs = b := hpl
    rw [← e, keys_all]
    rfl
  by_cases hlr : kk false = .L ∨ kk true = .L
  · -- a child lacks
    obtain ⟨s, hs, hout⟩ : ∃ s : Bool, kk (!s) = .L ∧ Out t z (t.hang (t.up z) (t.side z) (t.kid z s)) (t.nd z).red (t.up z) (t.side z) := by
      by_cases hl : kk false = .L
      · exact ⟨true, hl, .left (by rw [hkl, hl]; rfl) (by rw [hkr]; exact h.sub.2.2.2.ok)⟩
      · have hr' := hlr.resolve_left hl
        exact ⟨false, hr', .right (by rw [hkl]; exact ne_of false hl) (by rw [hkl]; exact h.sub.2.2.1.ok) (by rw [hkr, hr']; rfl)⟩
    have he : B.N z c v kk = bn s z c v (kk s) .L := by rw [bn_eta s z c v kk, hs]
    have hks : t.kid z s = (kk s).rid := by cases s; exact hkl; exact hkr
    rw [hks, hup1, hup2] at hout
    rw [he] at h hb
    obtain ⟨ze, -⟩ := h.splice
    have z2 := ze.drop
    have hkeys2 : ∃ l r, b.keys = l ++ (v, z) :: r ∧ (plug (kk s) fs).keys = l ++ r := by
      rw [hkeys, keys_all]
      cases s with
      | true => exact ⟨keysL fs, (kk true).keys ++ keysR fs, by rw [show kk false = .L from hs]; simp [B.keys], by simp⟩
      | false => exact ⟨keysL fs ++ (kk false).keys, keysR fs, by rw [show kk true = .L from hs]; simp [B.keys], by simp⟩
    obtain ⟨l, r, k1, k2⟩ := hkeys2
    cases c with
    | true =>
      obtain ⟨q1, q2, q3, q4⟩ := (Rb_red ..).1 hb
      obtain ⟨p1, p2⟩ := Rb_plug q3 hc (fun e => by rw [q1] at e; cases e)
      exact finish _ _ l r ⟨hz, huo, _, _, _, _, hout, .inl ⟨hred, rfl⟩⟩ ((Z_plug ..).1 z2) p1 p2 k1 k2
    | false =>
      obtain ⟨n', rfl, q3, q4⟩ := (Rb_black ..).1 hb
      obtain ⟨k, t', b', m1, m2, m3, m4, m5⟩ := fill_all fs z2 (RbF_of q3) hc
      exact finish _ _ l r ⟨hz, huo, _, _, _, _, hout, .inr ⟨hred, k, m1⟩⟩ m2 m3 m4 k1 (m5.trans k2)
  · -- both are there
    have hl : kk false ≠ .L := fun e => hlr (.inl e)
    have hr' : kk true ≠ .L := fun e => hlr (.inr e)
    have he := bn_eta true z c v kk
    have hz1 : Z t (kk true) (⟨true, z, c, v, kk false⟩ :: fs) := by
      rw [Z_step]
      show Z t (bn true z c v (kk true) (kk false)) fs
      have : B.N z c v kk = bn true z c v (kk true) (kk false) := he
      rw [← this]; exact h
    rw [he] at hb
    obtain ⟨n', s1, s2, s3⟩ := step_down hb hc hcr
    obtain ⟨k, y, cy, vy, x, gs, n2, a1, a2, a3, a4, a5, a6, a7⟩ := left_all (kk true) hr' hz1 s1 s2 s3
    have hsy := (Sub_bn ..).1 a2.sub
    have hyh : t.has y := hsy.1
    have hyp := place_up a2 (show (bn true y cy vy x .L).rid ≠ -1 from has_ne hyh)
    have hyu : t.up y = upOf (gs ++ ⟨true, z, c, v, kk false⟩ :: fs) := hyp.1
    have hys : t.side y = sd (gs ++ ⟨true, z, c, v, kk false⟩ :: fs) := hyp.2
    have hyk : t.kid y true = x.rid := by unfold T.kid; rw [hsy.2.1]; rfl
    have hyred : (t.nd y).red = cy := by rw [hsy.2.1]; rfl
    have hyv : (t.nd y).v = vy := by rw [hsy.2.1]; rfl
    have hyi : (t.nd y).inn = true := by rw [hsy.2.1]; rfl
    obtain ⟨ze, hnd⟩ := a2.splice
    have er1 : rep1 t y = t.hang (upOf (gs ++ ⟨true, z, c, v, kk false⟩ :: fs)) (sd (gs ++ ⟨true, z, c, v, kk false⟩ :: fs)) x.rid := by unfold rep1; rw [hyu, hys, hyk]
    rw [← er1] at ze hnd
    have ze1 : ZE (rep1 t y) (bn true z c v (plug x gs) (kk false)) fs y := by
      have := (ZE_plug (rep1 t y) gs y x _).1 ze
      rw [ZE_step] at this
      exact this
    have hrep := ze1.repl (by rw [hnd]; exact hyi)
    simp only at hrep
    obtain ⟨o1, o2, o3, ze2⟩ := hrep
    have ho : RepOk t z y := ⟨hz, hyh, by rw [hyu]; exact a2.ctx.ok, by rw [hyk]; exact hsy.2.2.1.ok, o1, o2, o3⟩
    rw [hnd, hyv] at ze2
    have z6 : Z ((rep5 t z y).put z nE) x (gs ++ ⟨true, y, c, vy, kk false⟩ :: fs) := by
      rw [Z_plug2, Z_step]
      exact ze2.drop
    have hhole : (if t.up y = z then y else t.up y) = upOf (gs ++ ⟨true, y, c, vy, kk false⟩ :: fs) ∧ t.side y = sd (gs ++ ⟨true, y, c, vy, kk false⟩ :: fs) := by
      rw [hyu, hys]
      cases gs with
      | nil => exact ⟨if_pos rfl, rfl⟩
      | cons g gs =>
        refine ⟨if_neg (fun e => ?_), rfl⟩
        have hd := a2.nod
        have h1 : (g.i :: (g.o.ids ++ idsC (gs ++ ⟨true, z, c, v, kk false⟩ :: fs))).Nodup := (List.nodup_append.1 hd).2.1
        have hg : g.i = z := e
        refine (List.nodup_cons.1 h1).1 ?_
        rw [hg]
        refine List.mem_append.2 (.inr ?_)
        exact mem_idsC gs _ fs
    have hout : Out t z (rep5 t z y) (t.nd y).red (if t.up y = z then y else t.up y) (t.side y) := .both k y (by rw [hkl]; exact ne_of false hl) (by rw [hkr]; exact ne_of true hr') (by rw [hkr]; exact a1) ho
    rw [hhole.1, hhole.2] at hout
    have hkx : ∀ w : B, (plug w gs).keys = w.keys ++ keysR gs := fun w => by rw [keys_all, keysL_left a4]; simp
    have k1 : b.keys = (keysL fs ++ (kk false).keys) ++ (v, z) :: ((vy, y) :: x.keys ++ keysR gs ++ keysR fs) := by
      rw [hkeys, ← a3, hkx, keys_bn]
      simp [B.keys]
    have k2 : (plug x (gs ++ ⟨true, y, c, vy, kk false⟩ :: fs)).keys = (keysL fs ++ (kk false).keys) ++ ((vy, y) :: x.keys ++ keysR gs ++ keysR fs) := by
      rw [plug_append]
      show (plug (bn true y c vy (plug x gs) (kk false)) fs).keys = _
      rw [keys_all, keys_bn, hkx]
      simp
    cases cy with
    | true =>
      obtain ⟨q1, q2, q3, q4⟩ := (Rb_red ..).1 a5
      obtain ⟨p1, p2⟩ := Rb_plug q3 (RbC_swap (i' := y) (v' := vy) a6) (fun e => by rw [q1] at e; cases e)
      exact finish _ _ _ _ ⟨hz, huo, _, _, _, _, hout, .inl ⟨hyred, rfl⟩⟩ ((Z_plug ..).1 z6) p1 p2 k1 k2
    | false =>
      obtain ⟨n3, rfl, q3, q4⟩ := (Rb_black ..).1 a5
      obtain ⟨k', t', b', m1, m2, m3, m4, m5⟩ := fill_all _ z6 (RbF_of q3) (RbC_swap (i' := y) (v' := vy) a6)
      exact finish _ _ _ _ ⟨hz, huo, _, _, _, _, hout, .inr ⟨hyred, k', m1⟩⟩ m2 m3 m4 k1 (m5.trans k2)
end Tr
end Go.Proofs.Ytgjacmkedgbneaa
