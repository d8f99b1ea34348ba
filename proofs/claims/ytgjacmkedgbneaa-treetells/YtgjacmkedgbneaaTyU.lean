/-
  Plain facts on trees: a tree seen from one of its places; what is painted, hung and turned there.
  Plain facts on trees: painting and turning at a place; a node that comes.
  Plain facts on trees: colors; a right tree is mended to a right one, with the same keys.
  Plain facts on trees: mending comes to a right tree.
  Plain facts on trees: what Insert tells of a right tree is right, with one key more.
  Plain facts on trees: filling a place comes to a right tree.
  Plain facts on trees: a node is taken out; what Delete tells of a right tree is right, with one key less.
  Plain facts on trees: what Delete tells of a right tree is right, with one key less.
  Contract of the laws' Op; how flat a right tree is.
  Plain facts: what Insert and Delete tell of a right tree, beside keys put and dropped.
  Plain facts on trees: the document takes a node out by the same hangs in another order; it comes to the same tree.
  The contract of turnspitref09's mended, over what mending makes of a tree. (Written by tools/genmend.py.)
  The contract of turnspitref09's Insert.
  The contract of turnspitref09's Delete.
  The contract of turnspitref09's Delete, where a node is taken out. (Written by tools/gendel.py.)
  The contract of the laws' Made: a tree of 24 nodes, right, by the document.
  What every law's row asks behind the call: true was returned, and nothing that was there has turned.
-/
import Derived.Test.YtgjacmkedgbneaaPlA
import Derived.Test.YtgjacmkedgbneaaTwR
import Derived.Test.YtgjacmkedgbneaaTyG
import Derived.Deep.LoopGhost
import Derived.Test.YtgjacmkedgbneaaTyS
import Derived.Test.YtgjacmkedgbneaaTwP
import Derived.Deep.CutRange
import Derived.Test.YtgjacmkedgbneaaTyN
import Derived.Deep.DeepCutAuto
import Derived.Test.YtgjacmkedgbneaaRows
import Derived.WalkKit
import Derived.ProofKit
import Derived.OpenShut
import Derived.Carry
namespace Go.Proofs.Ytgjacmkedgbneaa
namespace Tr
open Wd Tn Ky

/-- A node by its sides: x on the side s, o on the other. -/
def bn (s : Bool) (i : Int) (c : Bool) (v : Int) (x o : B) : B := .N i c v fun b => if b = s then x else o
theorem bn_swap (s : Bool) (i : Int) (c : Bool) (v : Int) (x o : B) : bn s i c v x o = bn (!s) i c v o x := by
  unfold bn
  congr 1
  funext b
  cases b <;> cases s <;> rfl
theorem bn_eta (s : Bool) (i : Int) (c : Bool) (v : Int) (k : Bool → B) : B.N i c v k = bn s i c v (k s) (k (!s)) := by
  unfold bn
  congr 1
  funext b
  cases b <;> cases s <;> rfl
/-- A step of the way down to a place: on which side of which node, and the other child. -/
structure F where
  s : Bool
  i : Int
  c : Bool
  v : Int
  o : B
def F.put (f : F) (x : B) : B := bn f.s f.i f.c f.v x f.o
def plug : B → List F → B
  | b, [] => b
  | b, f :: fs => plug (f.put b) fs
def upOf : List F → Int
  | [] => -1
  | f :: _ => f.i
def idsC : List F → List Int
  | [] => []
  | f :: fs => f.i :: (f.o.ids ++ idsC fs)
/-- What a node by its sides is in memory. -/
def nodeOf (s c : Bool) (v x o u : Int) : N := ⟨true, c, v, if s then o else x, if s then x else o, u⟩
def SubC (t : T) : List F → Int → Prop
  | [], x => t.root = x
  | f :: fs, x => t.has f.i ∧ t.nd f.i = nodeOf f.s f.c f.v x f.o.rid (upOf fs) ∧ Sub t f.o f.i ∧ SubC t fs f.i
theorem Sub_bn (t : T) (s : Bool) (i : Int) (c : Bool) (v : Int) (x o : B) (u : Int) : Sub t (bn s i c v x o) u ↔ t.has i ∧ t.nd i = nodeOf s c v x.rid o.rid u ∧ Sub t x i ∧ Sub t o i := by
  cases s
  · simp [bn, Sub, nodeOf]
  · simp [bn, Sub, nodeOf, and_comm]
theorem ids_bn (s : Bool) (i : Int) (c : Bool) (v : Int) (x o : B) : (bn s i c v x o).ids.Perm (x.ids ++ i :: o.ids) := by
  cases s
  · simp [bn, B.ids]
  · simp only [bn, B.ids, if_true, Bool.false_eq_true, if_false]
    refine List.perm_append_comm.trans ?_
    simp only [List.cons_append]
    exact (List.perm_middle.symm)
/-- All of it, seen from a place. -/
structure Z (t : T) (b : B) (fs : List F) : Prop where
  len : t.ns.length ≤ 64
  sub : Sub t b (upOf fs)
  ctx : SubC t fs b.rid
  nod : (b.ids ++ idsC fs).Nodup
  rest : ∀ i, t.has i → i ∉ b.ids → i ∉ idsC fs → t.nd i = nE
theorem Z_whole (t : T) (b : B) : Z t b [] ↔ Whole t b :=
  ⟨fun h => ⟨h.len, h.ctx, h.sub, by simpa [idsC] using h.nod, fun i hi hn => h.rest i hi hn (by simp [idsC])⟩, fun h => ⟨h.len, h.sub, h.root, by simpa [idsC] using h.nod, fun i hi hn _ => h.rest i hi hn⟩⟩
theorem Z_step (t : T) (b : B) (f : F) (fs : List F) : Z t b (f :: fs) ↔ Z t (f.put b) fs := by
  have hp : (b.ids ++ idsC (f :: fs)).Perm ((f.put b).ids ++ idsC fs) := by
    have h1 := (ids_bn f.s f.i f.c f.v b f.o).symm.append_right (idsC fs)
    have e : b.ids ++ idsC (f :: fs) = b.ids ++ f.i :: f.o.ids ++ idsC fs := by simp [idsC]
    rw [e]
    exact h1
  have hm : ∀ i, (i ∉ (f.put b).ids ∧ i ∉ idsC fs) ↔ (i ∉ b.ids ∧ i ∉ idsC (f :: fs)) := fun i => by
    have := hp.mem_iff (a := i)
    rw [List.mem_append, List.mem_append] at this
    rw [← not_or, ← not_or, this]
  constructor
  · intro h
    obtain ⟨h1, h2, h3, h4⟩ := h.ctx
    exact ⟨h.len, (Sub_bn ..).2 ⟨h1, h2, h.sub, h3⟩, h4, hp.nodup_iff.1 h.nod, fun i hi n1 n2 => h.rest i hi ((hm i).1 ⟨n1, n2⟩).1 ((hm i).1 ⟨n1, n2⟩).2⟩
  · intro h
    obtain ⟨h1, h2, h3, h4⟩ := (Sub_bn ..).1 h.sub
    exact ⟨h.len, h3, ⟨h1, h2, h4, h.ctx⟩, hp.nodup_iff.2 h.nod, fun i hi n1 n2 => h.rest i hi ((hm i).2 ⟨n1, n2⟩).1 ((hm i).2 ⟨n1, n2⟩).2⟩
theorem Z_plug (t : T) (b : B) (fs : List F) : Z t b fs ↔ Whole t (plug b fs) := by
  induction fs generalizing b with
  | nil => exact Z_whole t b
  | cons f fs ih => rw [Z_step, ih]; rfl

/-! ### What a change elsewhere leaves -/
theorem Sub.congr {t t' : T} (hl : t'.ns.length = t.ns.length) : {b : B} → {u : Int} → (∀ j ∈ b.ids, t'.nd j = t.nd j) → Sub t b u → Sub t' b u
  | .L, _, _, _ => trivial
  | .N i c v k, u, hc, h => by
    simp only [B.ids, List.mem_append, List.mem_cons] at hc
    exact ⟨(has_len hl).2 h.1, (hc i (.inr (.inl rfl))).trans h.2.1, Sub.congr hl (fun j hj => hc j (.inl hj)) h.2.2.1, Sub.congr hl (fun j hj => hc j (.inr (.inr hj))) h.2.2.2⟩
/-- Only the root has another Up. -/
theorem Sub.congrUp {t t' : T} (hl : t'.ns.length = t.ns.length) {b : B} {u u' : Int} (hd : b.ids.Nodup) (hc : ∀ j ∈ b.ids, j ≠ b.rid → t'.nd j = t.nd j) (hr : b.rid ≠ -1 → t'.nd b.rid = (t.nd b.rid).setUp u') (h : Sub t b u) : Sub t' b u' := by
  cases b with
  | L => trivial
  | N i c v k =>
    simp only [B.ids] at hd
    rw [List.nodup_append] at hd
    obtain ⟨_, d2, d3⟩ := hd
    obtain ⟨d4, _⟩ := List.nodup_cons.1 d2
    simp only [B.ids, List.mem_append, List.mem_cons] at hc
    have hi : i ≠ -1 := by have := h.1; unfold T.has at this; omega
    refine ⟨(has_len hl).2 h.1, ?_, Sub.congr hl (fun j hj => hc j (.inl hj) (fun e => d3 j hj i (by simp) e)) h.2.2.1, Sub.congr hl (fun j hj => hc j (.inr (.inr hj)) (fun e => d4 (by rw [B.rid] at e; exact e ▸ hj))) h.2.2.2⟩
    have := hr hi
    rw [show (B.N i c v k).rid = i from rfl, h.2.1] at this
    exact this
theorem SubC.congr {t t' : T} (hl : t'.ns.length = t.ns.length) (hr : t'.root = t.root) : {fs : List F} → {x : Int} → (∀ j ∈ idsC fs, t'.nd j = t.nd j) → SubC t fs x → SubC t' fs x
  | [], _, _, h => hr.trans h
  | f :: fs, x, hc, h => by
    simp only [idsC, List.mem_cons, List.mem_append] at hc
    exact ⟨(has_len hl).2 h.1, (hc f.i (.inl rfl)).trans h.2.1, Sub.congr hl (fun j hj => hc j (.inr (.inl hj))) h.2.2.1, SubC.congr hl hr (fun j hj => hc j (.inr (.inr hj))) h.2.2.2⟩
/-- Another one stands at the place. -/
theorem SubC.put {t t' : T} (hl : t'.ns.length = t.ns.length) {fs : List F} {x y : Int} (hd : (idsC fs).Nodup) (hc : ∀ j ∈ idsC fs, j ≠ upOf fs → t'.nd j = t.nd j)
    (hr : t'.root = if upOf fs = -1 then y else t.root) (hu : ∀ f gs, fs = f :: gs → t'.nd f.i = (t.nd f.i).setKid f.s y) (h : SubC t fs x) : SubC t' fs y := by
  cases fs with
  | nil => simpa [upOf, SubC] using hr
  | cons f fs =>
    simp only [idsC] at hd
    obtain ⟨d1, d2⟩ := List.nodup_cons.1 hd
    have hi : f.i ≠ -1 := by have := h.1; unfold T.has at this; omega
    rw [if_neg (show upOf (f :: fs) ≠ -1 from hi)] at hr
    simp only [idsC, List.mem_cons, List.mem_append, upOf] at hc
    refine ⟨(has_len hl).2 h.1, ?_, Sub.congr hl (fun j hj => hc j (.inr (.inl hj)) (fun e => d1 (List.mem_append.2 (.inl (e ▸ hj))))) h.2.2.1, SubC.congr hl hr (fun j hj => hc j (.inr (.inr hj)) (fun e => d1 (List.mem_append.2 (.inr (e ▸ hj))))) h.2.2.2⟩
    rw [hu f fs rfl, h.2.1]
    unfold N.setKid nodeOf
    cases f.s <;> rfl

/-! ### What a place tells -/
theorem Z.side {t : T} {b : B} {f : F} {fs : List F} (h : Z t b (f :: fs)) (hb : b.rid ≠ -1) : t.up b.rid = f.i ∧ t.side b.rid = f.s ∧ t.has b.rid := by
  have hd := h.nod
  cases b with
  | L => exact absurd rfl hb
  | N i c v k =>
    obtain ⟨s1, s2, -⟩ := h.sub
    obtain ⟨c1, c2, -⟩ := h.ctx
    have e1 : t.up i = f.i := by unfold T.up; rw [s2]; rfl
    have hfi : f.i ≠ -1 := by unfold T.has at c1; omega
    refine ⟨e1, ?_, s1⟩
    show t.side i = f.s
    unfold T.side
    rw [e1, decide_eq_true hfi, Bool.true_and]
    have e2 : t.kid f.i true = if f.s then i else f.o.rid := by unfold T.kid N.kid; rw [c2]; rfl
    rw [e2]
    cases hs : f.s
    · simp only [Bool.false_eq_true, if_false, decide_eq_false_iff_not]
      intro e
      cases ho : f.o with
      | L => rw [ho] at e; simp only [B.rid] at e; unfold T.has at s1; omega
      | N j c' v' k' =>
        rw [ho] at e
        simp only [B.rid] at e
        subst e
        rw [List.nodup_append] at hd
        refine hd.2.2 j ?_ j ?_ rfl
        · simp [B.ids]
        · simp [idsC, ho, B.ids]
    · simp
theorem Z.top {t : T} {b : B} (h : Z t b []) : t.root = b.rid ∧ (b.rid ≠ -1 → t.up b.rid = -1) := by
  refine ⟨h.ctx, fun hb => ?_⟩
  cases b with
  | L => exact absurd rfl hb
  | N i c v k => obtain ⟨-, s2, -⟩ := h.sub; show (t.nd i).u = -1; rw [s2]; rfl
end Tr
end Go.Proofs.Ytgjacmkedgbneaa

namespace Go.Proofs.Ytgjacmkedgbneaa
namespace Tr
open Wd Tn Ky

theorem nd_put {t : T} {i : Int} (hi : t.has i) (n : N) {j : Int} (hj : 0 ≤ j) : (t.put i n).nd j = if j = i then n else t.nd j := by
  by_cases h : j = i
  · subst h; rw [if_pos rfl, nd_put_same hi]
  · rw [if_neg h, nd_put_other hi.1 hj (fun e => h e.symm)]
theorem nd_setKid {t : T} {u : Int} (hu : t.ok u) (s : Bool) (y : Int) {j : Int} (hj : 0 ≤ j) : (t.setKid u s y).nd j = if j = u then (t.nd j).setKid s y else t.nd j := by
  unfold T.setKid
  rcases hu with rfl | hu
  · rw [if_pos rfl, if_neg (by omega)]; rfl
  · rw [if_neg (has_ne hu), nd_put hu _ hj]
    by_cases h : j = u
    · subst h; rw [if_pos rfl]
    · rw [if_neg h, if_neg h]
theorem nd_setUp {t : T} {y : Int} (hy : t.ok y) (u : Int) {j : Int} (hj : 0 ≤ j) : (t.setUp y u).nd j = if j = y then (t.nd j).setUp u else t.nd j := by
  unfold T.setUp
  rcases hy with rfl | hy
  · rw [if_pos rfl, if_neg (by omega)]
  · rw [if_neg (has_ne hy), nd_put hy _ hj]
    by_cases h : j = y
    · subst h; rw [if_pos rfl]
    · rw [if_neg h, if_neg h]
theorem nd_hang {t : T} {u y : Int} (hu : t.ok u) (hy : t.ok y) (s : Bool) {j : Int} (hj : 0 ≤ j) :
    (t.hang u s y).nd j = if j = y then (if j = u then (t.nd j).setKid s y else t.nd j).setUp u else (if j = u then (t.nd j).setKid s y else t.nd j) := by
  unfold T.hang
  rw [nd_setUp ((ok_len (setKid_len _ _ _ _)).2 hy) u hj, nd_setKid hu s y hj]
theorem root_hang (t : T) (u : Int) (s : Bool) (y : Int) : (t.hang u s y).root = if u = -1 then y else t.root := by
  unfold T.hang T.setUp T.setKid
  split <;> split <;> rfl
theorem nodeOf_kid (s c : Bool) (v x o u : Int) : (nodeOf s c v x o u).kid s = x ∧ (nodeOf s c v x o u).kid (!s) = o ∧ (nodeOf s c v x o u).u = u ∧ (nodeOf s c v x o u).red = c := by
  cases s <;> exact ⟨rfl, rfl, rfl, rfl⟩
theorem nodeOf_setKid (s c : Bool) (v x o u y : Int) : (nodeOf s c v x o u).setKid s y = nodeOf s c v y o u ∧ (nodeOf s c v x o u).setKid (!s) y = nodeOf s c v x y u ∧ (nodeOf s c v x o u).setUp y = nodeOf s c v x o y ∧ ∀ b, (nodeOf s c v x o u).setRed b = nodeOf s b v x o u := by
  cases s <;> exact ⟨rfl, rfl, rfl, fun _ => rfl⟩
theorem rid_mem (b : B) : b.rid = -1 ∨ b.rid ∈ b.ids := by
  cases b with
  | L => exact .inl rfl
  | N i c v k => exact .inr (by simp [B.rid, B.ids])
theorem upOf_mem (fs : List F) : upOf fs = -1 ∨ upOf fs ∈ idsC fs := by
  cases fs with
  | nil => exact .inl rfl
  | cons f fs => exact .inr (by simp [upOf, idsC])
theorem SubC.ok {t : T} {fs : List F} {x : Int} (h : SubC t fs x) : t.ok (upOf fs) := by
  cases fs with
  | nil => exact .inl rfl
  | cons f fs => exact .inr h.1
theorem SubC.has {t : T} : {fs : List F} → {x : Int} → SubC t fs x → ∀ i ∈ idsC fs, t.has i
  | [], _, _, i, hi => by cases hi
  | f :: fs, x, h, i, hi => by
    simp only [idsC, List.mem_cons, List.mem_append] at hi
    rcases hi with rfl | hi | hi
    · exact h.1
    · exact (h.2.2.1.has i hi).1
    · exact SubC.has h.2.2.2 i hi
theorem Z.has {t : T} {b : B} {fs : List F} (h : Z t b fs) : ∀ i, i ∈ b.ids ∨ i ∈ idsC fs → t.has i := fun i hi => hi.elim (fun hi => (h.sub.has i hi).1) (h.ctx.has i)

/-- The root of what stands at the place is painted. -/
theorem Z.paint {t : T} {s : Bool} {i : Int} {c : Bool} {v : Int} {x o : B} {fs : List F} (h : Z t (bn s i c v x o) fs) (c' : Bool) : Z (t.paint i c') (bn s i c' v x o) fs := by
  obtain ⟨h1, h2, h3, h4⟩ := (Sub_bn ..).1 h.sub
  have hl : (t.paint i c').ns.length = t.ns.length := paint_len _ _ _
  have hn := (((ids_bn s i c v x o).append_right (idsC fs)).nodup_iff).1 h.nod
  rw [List.append_assoc, List.cons_append, List.nodup_append] at hn
  obtain ⟨n1, n2, n3⟩ := hn
  obtain ⟨n4, n5⟩ := List.nodup_cons.1 n2
  have e : ∀ j, t.has j → j ≠ i → (t.paint i c').nd j = t.nd j := fun j hj hne => by
    show (t.put i _).nd j = _
    rw [nd_put h1 _ hj.1, if_neg hne]
  refine ⟨by rw [hl]; exact h.len, (Sub_bn ..).2 ⟨(has_len hl).2 h1, ?_, Sub.congr hl (fun j hj => e j (h3.has j hj).1 (fun q => n3 j hj i (by simp) q)) h3, Sub.congr hl (fun j hj => e j (h4.has j hj).1 (fun q => n4 (by rw [← q]; exact List.mem_append.2 (.inl hj)))) h4⟩,
    SubC.congr hl rfl (fun j hj => e j (h.ctx.has j hj) (fun q => n4 (by rw [← q]; exact List.mem_append.2 (.inr hj)))) h.ctx, h.nod, fun j hj m1 m2 => ?_⟩
  · show (t.put i _).nd i = _
    rw [nd_put h1 _ h1.1, if_pos rfl, h2]
    exact (nodeOf_setKid s c v x.rid o.rid (upOf fs) 0).2.2.2 c'
  · have hj' := (has_len hl).1 hj
    have hji : j ≠ i := fun q => m1 (by rw [q]; simp [bn, B.ids])
    rw [e j hj' hji]
    exact h.rest j hj' m1 m2

set_option maxHeartbeats 1000000 in
/-- What stands at the place is turned. -/
theorem Z.turn {t : T} {s : Bool} {x : Int} {c : Bool} {v : Int} {y : Int} {c' : Bool} {v' : Int} {A M D : B} {fs : List F} (h : Z t (bn s x c v A (bn s y c' v' M D)) fs) :
    TurnOk t x s ∧ Z (t.turn x s) (bn s y c' v' (bn s x c v A M) D) fs := by
  obtain ⟨h1, h2, h3, h4⟩ := (Sub_bn ..).1 h.sub
  obtain ⟨k1, k2, k3, k4⟩ := (Sub_bn ..).1 h4
  have hp : ((bn s x c v A (bn s y c' v' M D)).ids ++ idsC fs).Perm (A.ids ++ (x :: (M.ids ++ (y :: (D.ids ++ idsC fs))))) := by
    refine ((ids_bn s x c v A _).append_right _).trans ?_
    rw [List.append_assoc, List.cons_append]
    refine List.Perm.append_left _ (List.Perm.cons _ ?_)
    refine ((ids_bn s y c' v' M D).append_right _).trans ?_
    rw [List.append_assoc, List.cons_append]
  have hp' : ((bn s y c' v' (bn s x c v A M) D).ids ++ idsC fs).Perm (A.ids ++ (x :: (M.ids ++ (y :: (D.ids ++ idsC fs))))) := by
    refine ((ids_bn s y c' v' _ D).append_right _).trans ?_
    refine (((ids_bn s x c v A M).append_right _).append_right _).trans ?_
    simp
  have hnod := hp.nodup_iff.1 h.nod
  have hn := hnod
  rw [List.nodup_append] at hn
  obtain ⟨nA, n2, n3⟩ := hn
  obtain ⟨n4, n5⟩ := List.nodup_cons.1 n2
  rw [List.nodup_append] at n5
  obtain ⟨nM, n6, n7⟩ := n5
  obtain ⟨n8, n9⟩ := List.nodup_cons.1 n6
  rw [List.nodup_append] at n9
  obtain ⟨nD, nC, n10⟩ := n9
  have hu := h.ctx.ok
  obtain ⟨m, hm⟩ : ∃ m, M.rid = m := ⟨_, rfl⟩
  obtain ⟨u, hu0⟩ : ∃ u, upOf fs = u := ⟨_, rfl⟩
  have kk := nodeOf_kid s c v A.rid y (upOf fs)
  have kk' := nodeOf_kid s c' v' M.rid D.rid x
  have ek : t.kid x (!s) = y := by unfold T.kid; rw [h2]; exact kk.2.1
  have eu : t.up x = u := by unfold T.up; rw [h2, ← hu0]; exact kk.2.2.1
  have em : t.kid y s = m := by unfold T.kid; rw [k2, kk'.1, hm]
  have hmo : t.ok m := by rw [← hm]; exact k3.ok
  rw [hu0] at hu
  have hxy : x ≠ y := fun e => n4 (by rw [e]; simp)
  have hmm : m = -1 ∨ m ∈ M.ids := by rw [← hm]; exact rid_mem M
  have huu : u = -1 ∨ u ∈ idsC fs := by rw [← hu0]; exact upOf_mem fs
  have hx0 := h1.1
  have hy0 := k1.1
  have hxm : x ≠ m := fun e => hmm.elim (fun q => by omega) (fun q => n4 (by rw [e]; exact List.mem_append.2 (.inl q)))
  have hym : y ≠ m := fun e => hmm.elim (fun q => by omega) (fun q => n7 m q y (by simp) e.symm)
  have hxu : x ≠ u := fun e => huu.elim (fun q => by omega) (fun q => n4 (by rw [e]; simp [q]))
  have hyu : y ≠ u := fun e => huu.elim (fun q => by omega) (fun q => n8 (by rw [e]; simp [q]))
  refine ⟨⟨h1, by rw [eu]; exact hu, by rw [ek]; exact k1, by rw [ek, em]; exact hmo⟩, ?_⟩
  obtain ⟨a, ha⟩ : ∃ a, t.side x = a := ⟨_, rfl⟩
  have et : t.turn x s = ((t.hang x (!s) m).hang u a y).hang y s x := by unfold T.turn; rw [ek, em, eu, ha]
  rw [et]
  have l1 : (t.hang x (!s) m).ns.length = t.ns.length := hang_len _ _ _ _
  have l2 : ((t.hang x (!s) m).hang u a y).ns.length = t.ns.length := (hang_len _ _ _ _).trans l1
  have l3 : (((t.hang x (!s) m).hang u a y).hang y s x).ns.length = t.ns.length := (hang_len _ _ _ _).trans l2
  have nd1 : ∀ {j : Int}, 0 ≤ j → (t.hang x (!s) m).nd j = _ := fun hj => nd_hang (.inr h1) hmo (!s) hj
  have nd2 : ∀ {j : Int}, 0 ≤ j → ((t.hang x (!s) m).hang u a y).nd j = _ := fun hj => nd_hang ((ok_len l1).2 hu) (.inr ((has_len l1).2 k1)) a hj
  have nd3 : ∀ {j : Int}, 0 ≤ j → (((t.hang x (!s) m).hang u a y).hang y s x).nd j = _ := fun hj => nd_hang (.inr ((has_len l2).2 k1)) (.inr ((has_len l2).2 h1)) s hj
  have other : ∀ j, 0 ≤ j → j ≠ x → j ≠ y → j ≠ m → j ≠ u → (((t.hang x (!s) m).hang u a y).hang y s x).nd j = t.nd j := fun j hj e1 e2 e3 e4 => by
    rw [nd3 hj, if_neg e1, if_neg e2, nd2 hj, if_neg e2, if_neg e4, nd1 hj, if_neg e3, if_neg e1]
  have ex : (((t.hang x (!s) m).hang u a y).hang y s x).nd x = nodeOf s c v A.rid m y := by
    rw [nd3 hx0, if_pos rfl, if_neg hxy, nd2 hx0, if_neg hxy, if_neg hxu, nd1 hx0, if_neg hxm, if_pos rfl, h2]
    have := nodeOf_setKid s c v A.rid y (upOf fs) m
    rw [show (bn s y c' v' M D).rid = y from rfl, this.2.1]
    exact (nodeOf_setKid s c v A.rid m (upOf fs) y).2.2.1
  have ey : (((t.hang x (!s) m).hang u a y).hang y s x).nd y = nodeOf s c' v' x D.rid u := by
    rw [nd3 hy0, if_neg (fun e => hxy e.symm), if_pos rfl, nd2 hy0, if_pos rfl, if_neg hyu, nd1 hy0, if_neg hym, if_neg (fun e => hxy e.symm), k2]
    rw [(nodeOf_setKid s c' v' M.rid D.rid x u).2.2.1]
    exact (nodeOf_setKid s c' v' M.rid D.rid u x).1
  have emm : m ≠ -1 → (((t.hang x (!s) m).hang u a y).hang y s x).nd m = (t.nd m).setUp x := fun hne => by
    have hm0 : 0 ≤ m := (hmo.resolve_left hne).1
    have hmu : m ≠ u := fun e => by
      have q := hmm.resolve_left hne
      rcases huu with w | w
      · exact hne (e.trans w)
      · exact n7 m q u (by simp [w]) e
    rw [nd3 hm0, if_neg (fun e => hxm e.symm), if_neg (fun e => hym e.symm), nd2 hm0, if_neg (fun e => hym e.symm), if_neg hmu, nd1 hm0, if_pos rfl, if_neg (fun e => hxm e.symm)]
  have euu : u ≠ -1 → (((t.hang x (!s) m).hang u a y).hang y s x).nd u = (t.nd u).setKid a y := fun hne => by
    have hu0' : 0 ≤ u := (hu.resolve_left hne).1
    have hmu : u ≠ m := fun e => by
      have w := huu.resolve_left hne
      rcases hmm with q | q
      · exact hne (e.trans q)
      · exact n7 m q u (by simp [w]) e.symm
    rw [nd3 hu0', if_neg (fun e => hxu e.symm), if_neg (fun e => hyu e.symm), nd2 hu0', if_neg (fun e => hyu e.symm), if_pos rfl, nd1 hu0', if_neg hmu, if_neg (fun e => hxu e.symm)]
  have eroot : (((t.hang x (!s) m).hang u a y).hang y s x).root = if u = -1 then y else t.root := by
    rw [root_hang, if_neg (by omega), root_hang, root_hang, if_neg (by omega : x ≠ -1)]
  generalize ((t.hang x (!s) m).hang u a y).hang y s x = t' at l3 other ex ey emm euu eroot
  have inA : ∀ j ∈ A.ids, t'.nd j = t.nd j := fun j hj => by
    have q := fun b hb => n3 j hj b hb
    exact other j (h3.has j hj).1.1 (q x (by simp)) (q y (by simp)) (fun e => hmm.elim (fun w => by have := (h3.has j hj).1.1; omega) (fun w => q m (by simp [w]) e)) (fun e => huu.elim (fun w => by have := (h3.has j hj).1.1; omega) (fun w => q u (by simp [w]) e))
  have inM : ∀ j ∈ M.ids, j ≠ M.rid → t'.nd j = t.nd j := fun j hj hne => by
    have q := fun b hb => n7 j hj b hb
    rw [hm] at hne
    exact other j (k3.has j hj).1.1 (fun e => n4 (by rw [← e]; exact List.mem_append.2 (.inl hj))) (q y (by simp)) hne (fun e => huu.elim (fun w => by have := (k3.has j hj).1.1; omega) (fun w => q u (by simp [w]) e))
  have inD : ∀ j ∈ D.ids, t'.nd j = t.nd j := fun j hj => by
    refine other j (k4.has j hj).1.1 (fun e => n4 (by rw [← e]; simp [hj])) (fun e => n8 (by rw [← e]; simp [hj])) (fun e => ?_) (fun e => ?_)
    · rcases hmm with w | w
      · have := (k4.has j hj).1.1; omega
      · exact n7 m w j (by simp [hj]) e.symm
    · rcases huu with w | w
      · have := (k4.has j hj).1.1; omega
      · exact n10 j hj u w e
  have inC : ∀ j ∈ idsC fs, j ≠ upOf fs → t'.nd j = t.nd j := fun j hj hne => by
    rw [hu0] at hne
    have j0 := (h.ctx.has j hj).1
    refine other j j0 (fun e => n4 (by rw [← e]; simp [hj])) (fun e => n8 (by rw [← e]; simp [hj])) (fun e => ?_) hne
    rcases hmm with w | w
    · omega
    · exact n7 m w j (by simp [hj]) e.symm
  refine ⟨by rw [l3]; exact h.len, (Sub_bn ..).2 ⟨(has_len l3).2 k1, by rw [ey, hu0]; rfl, (Sub_bn ..).2 ⟨(has_len l3).2 h1, by rw [ex, hm], h3.congr l3 inA, ?_⟩, k4.congr l3 inD⟩, ?_, hp'.nodup_iff.2 hnod, fun j hj m1 m2 => ?_⟩
  · exact k3.congrUp l3 nM inM (fun hne => by rw [hm] at hne ⊢; exact emm hne)
  · refine SubC.put l3 nC inC (by rw [hu0]; exact eroot) (fun f gs e => ?_) h.ctx
    subst e
    have hz := h.side (show (bn s x c v A (bn s y c' v' M D)).rid ≠ -1 from has_ne h1)
    have hfi : u = f.i := hu0.symm
    have has' : a = f.s := ha.symm.trans hz.2.1
    have hne : u ≠ -1 := by rw [hfi]; exact has_ne h.ctx.1
    have := euu hne
    rw [hfi, has'] at this
    exact this
  · have hj' := (has_len l3).1 hj
    have hnm : j ∉ A.ids ++ (x :: (M.ids ++ (y :: (D.ids ++ idsC fs)))) := fun e => by
      have := hp'.mem_iff.2 e
      rcases List.mem_append.1 this with w | w
      · exact m1 w
      · exact m2 w
    simp only [List.mem_append, List.mem_cons, not_or] at hnm
    obtain ⟨w1, w2, w3, w4, w5, w6⟩ := hnm
    have j0 := hj'.1
    rw [other j j0 w2 w4 (fun e => hmm.elim (fun q => by omega) (fun q => w3 (by rw [e]; exact q))) (fun e => huu.elim (fun q => by omega) (fun q => w6 (by rw [e]; exact q)))]
    have hold : j ∉ (bn s x c v A (bn s y c' v' M D)).ids ++ idsC fs := fun e => by
      have := hp.mem_iff.1 e
      simp only [List.mem_append, List.mem_cons] at this
      rcases this with q | q | q | q | q | q
      · exact w1 q
      · exact w2 q
      · exact w3 q
      · exact w4 q
      · exact w5 q
      · exact w6 q
    exact h.rest j hj' (fun e => hold (List.mem_append.2 (.inl e))) (fun e => hold (List.mem_append.2 (.inr e)))
end Tr
end Go.Proofs.Ytgjacmkedgbneaa

namespace Go.Proofs.Ytgjacmkedgbneaa
namespace Tr
open Wd Tn Ky

/-- No Red one has a Red child, and each way has n that are not Red. -/
def Rb : B → Nat → Prop
  | .L, n => n = 0
  | .N _ true _ k, n => (k false).isRed = false ∧ (k true).isRed = false ∧ Rb (k false) n ∧ Rb (k true) n
  | .N _ false _ k, n => ∃ m, n = m + 1 ∧ Rb (k false) m ∧ Rb (k true) m
theorem Rb_red (s : Bool) (i v : Int) (x o : B) (n : Nat) : Rb (bn s i true v x o) n ↔ x.isRed = false ∧ o.isRed = false ∧ Rb x n ∧ Rb o n := by
  cases s
  · simp [bn, Rb]
  · simp only [bn, Rb, if_true, Bool.false_eq_true, if_false]
    exact ⟨fun h => ⟨h.2.1, h.1, h.2.2.2, h.2.2.1⟩, fun h => ⟨h.2.1, h.1, h.2.2.2, h.2.2.1⟩⟩
theorem Rb_black (s : Bool) (i v : Int) (x o : B) (n : Nat) : Rb (bn s i false v x o) n ↔ ∃ m, n = m + 1 ∧ Rb x m ∧ Rb o m := by
  cases s
  · simp [bn, Rb]
  · simp only [bn, Rb, if_true, Bool.false_eq_true, if_false]
    exact ⟨fun ⟨m, h⟩ => ⟨m, h.1, h.2.2, h.2.1⟩, fun ⟨m, h⟩ => ⟨m, h.1, h.2.2, h.2.1⟩⟩
theorem plain_iff : (b : B) → (b.plain.2 = true ↔ ∃ n, Rb b n) ∧ ∀ n, Rb b n → b.plain = (n, true)
  | .L => ⟨⟨fun _ => ⟨0, rfl⟩, fun _ => rfl⟩, fun n h => by rw [show n = 0 from h]; rfl⟩
  | .N i c v k => by
    have h1 := plain_iff (k false)
    have h2 := plain_iff (k true)
    have key : ∀ n, Rb (.N i c v k) n → (B.N i c v k).plain = (n, true) := fun n h => by
      cases c with
      | true =>
        obtain ⟨r1, r2, r3, r4⟩ := h
        have e1 := h1.2 n r3
        have e2 := h2.2 n r4
        simp [B.plain, e1, e2, r1, r2]
      | false =>
        obtain ⟨m, rfl, r3, r4⟩ := h
        have e1 := h1.2 m r3
        have e2 := h2.2 m r4
        simp [B.plain, e1, e2]
    refine ⟨⟨fun h => ?_, fun ⟨n, h⟩ => by rw [key n h]⟩, key⟩
    simp only [B.plain] at h
    split at h
    · rename_i hh
      obtain ⟨n1, e1⟩ := h1.1.1 hh.1
      obtain ⟨n2, e2⟩ := h2.1.1 hh.2.1
      have q1 := h1.2 n1 e1
      have q2 := h2.2 n2 e2
      have : n1 = n2 := by have := hh.2.2; rw [q1, q2] at this; exact this
      subst this
      cases c with
      | true =>
        simp only [if_true, Bool.and_eq_true, Bool.not_eq_true'] at h
        exact ⟨n1, h.1, h.2, e1, e2⟩
      | false => exact ⟨n1 + 1, n1, rfl, e1, e2⟩
    · cases h
def topRed : List F → Bool
  | [] => false
  | f :: _ => f.c
/-- What stands around a place where each way has n that are not Red. -/
def RbC : List F → Nat → Prop
  | [], _ => True
  | f :: fs, n => Rb f.o n ∧ (f.c = true → f.o.isRed = false ∧ topRed fs = false ∧ fs ≠ []) ∧ RbC fs (if f.c then n else n + 1)
theorem isRed_bn (s : Bool) (i : Int) (c : Bool) (v : Int) (x o : B) : (bn s i c v x o).isRed = c := rfl
theorem Rb_put {f : F} {fs : List F} {b : B} {n : Nat} (hb : Rb b n) (hc : RbC (f :: fs) n) (hr : f.c = true → b.isRed = false) : Rb (f.put b) (if f.c then n else n + 1) := by
  obtain ⟨h1, h2, -⟩ := hc
  unfold F.put
  cases h : f.c with
  | true => exact (Rb_red ..).2 ⟨hr h, (h2 h).1, hb, h1⟩
  | false => exact (Rb_black ..).2 ⟨n, rfl, hb, h1⟩
/-- All of it is right. -/
theorem Rb_plug {fs : List F} : ∀ {b : B} {n : Nat}, Rb b n → RbC fs n → (b.isRed = true → topRed fs = false ∧ fs ≠ []) → (plug b fs).isRed = false ∧ ∃ m, Rb (plug b fs) m := by
  induction fs with
  | nil =>
    intro b n hb _ hr
    refine ⟨?_, n, hb⟩
    cases h : b.isRed with
    | false => exact h
    | true => exact absurd rfl (hr h).2
  | cons f fs ih =>
    intro b n hb hc hr
    have hput := Rb_put hb hc (fun e => by
      cases h : b.isRed with
      | false => rfl
      | true => have := (hr h).1; rw [show topRed (f :: fs) = f.c from rfl, e] at this; cases this)
    exact ih hput hc.2.2 (fun e => (hc.2.1 e).2)
theorem keys_bn (s : Bool) (i : Int) (c : Bool) (v : Int) (x o : B) : (bn s i c v x o).keys = if s then o.keys ++ (v, i) :: x.keys else x.keys ++ (v, i) :: o.keys := by
  cases s <;> simp [bn, B.keys]
theorem keys_turn (s : Bool) (x : Int) (c : Bool) (v : Int) (y : Int) (c' : Bool) (v' : Int) (A M D : B) : (bn s y c' v' (bn s x c v A M) D).keys = (bn s x c v A (bn s y c' v' M D)).keys := by
  cases s <;> simp [keys_bn]
theorem keys_plug {fs : List F} : ∀ {b b' : B}, b'.keys = b.keys → (plug b' fs).keys = (plug b fs).keys := by
  induction fs with
  | nil => intro b b' h; exact h
  | cons f fs ih =>
    intro b b' h
    refine ih ?_
    unfold F.put
    rw [keys_bn, keys_bn, h]
theorem paint_same {t : T} {i : Int} (hi : t.has i) {c : Bool} (h : (t.nd i).red = c) : t.paint i c = t := by
  have e : (t.nd i).setRed c = t.nd i := by rw [← h]; rfl
  unfold T.paint T.put
  rw [e]
  unfold T.has at hi
  have : t.ns.set i.toNat (t.nd i) = t.ns := by
    have hlt : i.toNat < t.ns.length := by omega
    have hnd : t.nd i = t.ns[i.toNat] := by unfold T.nd; simp [List.getD, hlt]
    rw [hnd, List.set_getElem_self]
  rw [this]
theorem redB_of {t : T} {i : Int} (hi : t.has i) : t.redB i = (t.nd i).red := by unfold T.redB; rw [decide_eq_true (has_ne hi), Bool.true_and]

/-- What mending comes to. -/
def Mended (t : T) (x : Int) (ks : List K) : Prop := ∃ (n : Nat) (t' : T) (b' : B), Mend n t x t' ∧ Whole t' b' ∧ b'.isRed = false ∧ (∃ m, Rb b' m) ∧ b'.keys = ks
theorem mend_done {t : T} {b : B} {fs : List F} {n : Nat} (h : Z t b fs) (hr : b.isRed = true) (hb : Rb b n) (hc : RbC fs n) (ht : topRed fs = false) (k : Nat) :
    ∃ (t' : T) (b' : B), Mend k t b.rid t' ∧ Whole t' b' ∧ b'.isRed = false ∧ (∃ m, Rb b' m) ∧ b'.keys = (plug b fs).keys := by
  obtain ⟨i, v, x, o, rfl⟩ : ∃ i v x o, b = bn false i true v x o := by
    cases b with
    | L => cases hr
    | N i c v kk => rw [B.isRed] at hr; subst hr; exact ⟨i, v, kk false, kk true, bn_eta false i true v kk⟩
  have hi : t.has i := ((Sub_bn ..).1 h.sub).1
  have hup : t.up i = upOf fs := by unfold T.up; rw [((Sub_bn ..).1 h.sub).2.1]; exact (nodeOf_kid ..).2.2.1
  cases fs with
  | nil =>
    have hroot : t.root = i := h.ctx
    obtain ⟨q1, q2, q3, q4⟩ := (Rb_red ..).1 hb
    refine ⟨t.paint t.root false, bn false i false v x o, .done k t i hi (by rw [hup]; exact .inl rfl) (by rw [hup]; rfl) (by rw [hroot]; exact hi), ?_, rfl, ⟨n + 1, (Rb_black ..).2 ⟨n, rfl, q3, q4⟩⟩, ?_⟩
    · rw [hroot, ← Z_whole]; exact h.paint false
    · show (bn false i false v x o).keys = (bn false i true v x o).keys
      rw [keys_bn, keys_bn]
  | cons f fs =>
    have hfc : f.c = false := ht
    have hw := (Z_plug t _ (f :: fs)).1 h
    obtain ⟨hpr, m, hpm⟩ := Rb_plug hb hc (fun _ => ⟨ht, by simp⟩)
    have hfh : t.has f.i := h.ctx.1
    have hfr : t.redB f.i = false := by rw [redB_of hfh, h.ctx.2.1, (nodeOf_kid ..).2.2.2]; exact hfc
    generalize hpl : plug (bn false i true v x o) (f :: fs) = b' at hw hpr hpm
    have hnl : t.has t.root := by
      rw [hw.root]
      refine hw.sub.ok.resolve_left (fun e => ?_)
      cases b' with
      | N i' c' v' k' => have := hw.sub.1; exact has_ne this e
      | L =>
        have := hw.rest i hi (by simp [B.ids])
        have h2 := ((Sub_bn ..).1 h.sub).2.1
        rw [h2] at this
        have h3 : (nodeOf false true v x.rid o.rid (upOf (f :: fs))).inn = nE.inn := by rw [this]
        cases h3
    have hrr : (t.nd t.root).red = false := by rw [← redB_of hnl, hw.root, hw.sub.red]; exact hpr
    refine ⟨t.paint t.root false, b', .done k t i hi (by rw [hup]; exact .inr hfh) (by rw [hup]; exact hfr) hnl, ?_, hpr, ⟨m, hpm⟩, by rw [← hpl]⟩
    rw [paint_same hnl hrr]
    exact hw
end Tr
end Go.Proofs.Ytgjacmkedgbneaa

namespace Go.Proofs.Ytgjacmkedgbneaa
namespace Tr
open Wd Tn Ky

/-- The frame, painted. -/
def F.paint (f : F) (c : Bool) : F := { f with c := c }
theorem Z.paintUp {t : T} {b : B} {f : F} {fs : List F} (h : Z t b (f :: fs)) (c : Bool) : Z (t.paint f.i c) b (f.paint c :: fs) := by
  rw [Z_step] at h ⊢
  exact h.paint c
/-- Seen from the other child. -/
theorem Z.over {t : T} {b : B} {f : F} {fs : List F} (h : Z t b (f :: fs)) : Z t f.o (⟨!f.s, f.i, f.c, f.v, b⟩ :: fs) := by
  rw [Z_step] at h ⊢
  unfold F.put at h ⊢
  simp only
  rw [← bn_swap]
  exact h
theorem kid_frame {t : T} {b : B} {f : F} {fs : List F} (h : Z t b (f :: fs)) : t.kid f.i f.s = b.rid ∧ t.kid f.i (!f.s) = f.o.rid ∧ t.has f.i ∧ t.redB f.i = f.c ∧ t.up f.i = upOf fs := by
  obtain ⟨h1, h2, -⟩ := h.ctx
  have k := nodeOf_kid f.s f.c f.v b.rid f.o.rid (upOf fs)
  refine ⟨by unfold T.kid; rw [h2]; exact k.1, by unfold T.kid; rw [h2]; exact k.2.1, h1, by rw [redB_of h1, h2]; exact k.2.2.2, by unfold T.up; rw [h2]; exact k.2.2.1⟩
theorem red_split {b : B} (h : b.isRed = true) (s : Bool) : ∃ i v x o, b = bn s i true v x o := by
  cases b with
  | L => cases h
  | N i c v k => rw [B.isRed] at h; subst h; exact ⟨i, v, k s, k (!s), bn_eta s i true v k⟩

set_option maxHeartbeats 1000000 in
theorem mend_all : (len : Nat) → ∀ {fs : List F} {t : T} {b : B} {n : Nat}, fs.length ≤ len → Z t b fs → b.isRed = true → Rb b n → RbC fs n → Mended t b.rid (plug b fs).keys
  | len, [], t, b, n, _, h, hr, hb, hc => by
    obtain ⟨t', b', q⟩ := mend_done h hr hb hc rfl 0
    exact ⟨0, t', b', q⟩
  | len, [f], t, b, n, hlen, h, hr, hb, hc => by
    cases hfc : f.c with
    | false =>
      obtain ⟨t', b', q⟩ := mend_done h hr hb hc hfc 0
      exact ⟨0, t', b', q⟩
    | true => exact absurd rfl (hc.2.1 hfc).2.2
  | 0, f :: g :: fs, t, b, n, hlen, h, hr, hb, hc => by simp at hlen
  | 1, f :: g :: fs, t, b, n, hlen, h, hr, hb, hc => by simp at hlen
  | len + 2, f :: g :: fs, t, b, n, hlen, h, hr, hb, hc => by
    cases hfc : f.c with
    | false =>
      obtain ⟨t', b', q⟩ := mend_done h hr hb hc hfc 0
      exact ⟨0, t', b', q⟩
    | true =>
      obtain ⟨c1, c2, c3⟩ := hc
      obtain ⟨c4, c5, -⟩ := c2 hfc
      have hgc : g.c = false := c5
      rw [hfc, if_pos rfl] at c3
      obtain ⟨c6, -, c7⟩ := c3
      rw [hgc, if_neg (by decide)] at c7
      have hx : b.rid ≠ -1 := by
        obtain ⟨i, v, x, o, rfl⟩ := red_split hr false
        exact has_ne ((Sub_bn ..).1 h.sub).1
      obtain ⟨e1, e2, e3⟩ := h.side hx
      obtain ⟨kf1, kf2, kf3, kf4, kf5⟩ := kid_frame h
      rw [hfc] at kf4
      have h2 : Z t (f.put b) (g :: fs) := (Z_step ..).1 h
      have hp0 : (f.put b).rid = f.i := rfl
      obtain ⟨g1, g2, g3⟩ := h2.side (by rw [hp0]; exact has_ne kf3)
      rw [hp0] at g1 g2
      obtain ⟨kg1, kg2, kg3, kg4, kg5⟩ := kid_frame h2
      have hu : t.ok g.o.rid := (h2.ctx.2.2.1).ok
      have hured : t.redB g.o.rid = g.o.isRed := (h2.ctx.2.2.1).red
      cases hgo : g.o.isRed with
      | true =>
        -- the uncle is Red
        obtain ⟨iu, vu, xu, ou, hou⟩ := red_split hgo (!g.s)
        have hsu := h2.ctx.2.2.1
        rw [hou] at hsu
        have hup : t.has g.o.rid := by rw [hou]; exact ((Sub_bn ..).1 hsu).1
        have z1 : Z (t.paint f.i false) b (f.paint false :: g :: fs) := h.paintUp false
        have z2 : Z (t.paint f.i false) ((f.paint false).put b) (g :: fs) := (Z_step ..).1 z1
        have z3 := z2.over
        rw [hou] at z3
        have z4 := z3.paint false
        have z5 := z4.paintUp true
        have z6 := (Z_step ..).1 z5
        obtain ⟨r1, r2, r3, r4⟩ := (Rb_red ..).1 (by rw [hou] at c6; exact c6)
        have hPr : Rb ((f.paint false).put b) (n + 1) := (Rb_black ..).2 ⟨n, rfl, hb, c1⟩
        have hUr : Rb (bn (!g.s) iu false vu xu ou) (n + 1) := (Rb_black ..).2 ⟨n, rfl, r3, r4⟩
        have hGr : Rb (bn (!g.s) g.i true g.v (bn (!g.s) iu false vu xu ou) ((f.paint false).put b)) (n + 1) := (Rb_red ..).2 ⟨rfl, rfl, hUr, hPr⟩
        obtain ⟨k, t', b', m1, m2, m3, m4, m5⟩ := mend_all len (by simp at hlen; omega) z6 rfl hGr c7
        refine ⟨k + 1, t', b', .up k t t' b.rid f.i g.i g.o.rid g.s e3 e1 kf3 kf4 g1 kg3 g2 kg2 hup (by rw [hured, hgo]) ?_, m2, m3, m4, ?_⟩
        · have : g.o.rid = iu := by rw [hou]; rfl
          rw [this]
          exact m1
        · rw [m5]
          show _ = (plug (g.put (f.put b)) fs).keys
          refine keys_plug ?_
          show (bn (!g.s) g.i true g.v (bn (!g.s) iu false vu xu ou) (bn f.s f.i false f.v b f.o)).keys = (bn g.s g.i g.c g.v (bn f.s f.i f.c f.v b f.o) g.o).keys
          rw [hou, bn_swap g.s]
          simp only [keys_bn]
      | false =>
        rw [hgo] at hured
        have hxne : f.o.rid ≠ b.rid := fun e => by
          rcases rid_mem f.o with w | w
          · exact hx (e.symm.trans w)
          · have hb' := (rid_mem b).resolve_left hx
            have hd := h.nod
            rw [List.nodup_append] at hd
            exact hd.2.2 b.rid hb' f.o.rid (by simp [idsC, w]) e.symm
        by_cases hs : f.s = g.s
        · -- on the outer side
          have z1 : Z (t.paint f.i false) ((f.paint false).put b) (g :: fs) := (Z_step ..).1 (h.paintUp false)
          have z2 : Z ((t.paint f.i false).paint g.i true) ((g.paint true).put ((f.paint false).put b)) fs := (Z_step ..).1 (z1.paintUp true)
          have z3 : Z ((t.paint f.i false).paint g.i true) (bn (!g.s) g.i true g.v g.o (bn (!g.s) f.i false f.v f.o b)) fs := by
            have e : (g.paint true).put ((f.paint false).put b) = bn (!g.s) g.i true g.v g.o (bn (!g.s) f.i false f.v f.o b) := by
              show bn g.s g.i true g.v (bn f.s f.i false f.v b f.o) g.o = _
              rw [bn_swap g.s, hs, bn_swap g.s f.i]
            rw [← e]; exact z2
          obtain ⟨tok, z4⟩ := z3.turn
          have z5 : Z (((t.paint f.i false).paint g.i true).turn g.i (!g.s)) b (⟨g.s, f.i, false, f.v, bn (!g.s) g.i true g.v g.o f.o⟩ :: fs) := by
            rw [Z_step]
            show Z _ (bn g.s f.i false f.v b _) fs
            rw [bn_swap g.s]
            exact z4
          have hG : Rb (bn (!g.s) g.i true g.v g.o f.o) n := (Rb_red ..).2 ⟨hgo, c4, c6, c1⟩
          obtain ⟨t', b', m1, m2, m3, m4, m5⟩ := mend_done z5 hr hb ⟨hG, (fun e => by cases e), c7⟩ rfl 0
          refine ⟨1, t', b', .out 0 t t' b.rid f.i g.i g.o.rid g.s e3 e1 kf3 kf4 g1 kg3 g2 kg2 hu hured (by rw [e2, hs]) (by rw [← hs, kf2]; exact hxne) tok m1, m2, m3, m4, ?_⟩
          rw [m5]
          show (plug (bn g.s f.i false f.v b (bn (!g.s) g.i true g.v g.o f.o)) fs).keys = (plug (bn g.s g.i g.c g.v (bn f.s f.i f.c f.v b f.o) g.o) fs).keys
          refine keys_plug ?_
          rw [hs]
          cases g.s <;> simp [keys_bn]
        · -- on the inner side
          have hs' : f.s = !g.s := by cases hf : f.s <;> cases hg : g.s <;> simp_all
          obtain ⟨i, v, M, D, hbe⟩ := red_split hr g.s
          have hi : b.rid = i := by rw [hbe]; rfl
          obtain ⟨q1, q2, q3, q4⟩ := (Rb_red ..).1 (by rw [hbe] at hb; exact hb)
          have z1 : Z t (bn g.s f.i true f.v f.o (bn g.s i true v M D)) (g :: fs) := by
            have e : f.put b = bn g.s f.i true f.v f.o (bn g.s i true v M D) := by
              show bn f.s f.i f.c f.v b f.o = _
              rw [hs', hfc, bn_swap g.s f.i, hbe]
            rw [← e]; exact h2
          obtain ⟨tok1, z2⟩ := z1.turn
          have hup1 : (t.turn f.i g.s).up f.i = i := by
            have q := ((Sub_bn ..).1 ((Sub_bn ..).1 z2.sub).2.2.1).2.1
            unfold T.up
            rw [q]
            exact (nodeOf_kid ..).2.2.1
          have z3 := z2.paint false
          have z4 : Z (((t.turn f.i g.s).paint i false).paint g.i true) ((g.paint true).put (bn g.s i false v (bn g.s f.i true f.v f.o M) D)) fs := (Z_step ..).1 (z3.paintUp true)
          have z5 : Z (((t.turn f.i g.s).paint i false).paint g.i true) (bn (!g.s) g.i true g.v g.o (bn (!g.s) i false v D (bn g.s f.i true f.v f.o M))) fs := by
            have e : (g.paint true).put (bn g.s i false v (bn g.s f.i true f.v f.o M) D) = bn (!g.s) g.i true g.v g.o (bn (!g.s) i false v D (bn g.s f.i true f.v f.o M)) := by
              show bn g.s g.i true g.v (bn g.s i false v (bn g.s f.i true f.v f.o M) D) g.o = _
              rw [bn_swap g.s g.i, bn_swap g.s i]
            rw [← e]; exact z4
          obtain ⟨tok2, z6⟩ := z5.turn
          have z7 : Z ((((t.turn f.i g.s).paint i false).paint g.i true).turn g.i (!g.s)) (bn g.s f.i true f.v f.o M) (⟨g.s, i, false, v, bn (!g.s) g.i true g.v g.o D⟩ :: fs) := by
            rw [Z_step]
            show Z _ (bn g.s i false v (bn g.s f.i true f.v f.o M) _) fs
            rw [bn_swap g.s i]
            exact z6
          have hP : Rb (bn g.s f.i true f.v f.o M) n := (Rb_red ..).2 ⟨c4, q1, c1, q3⟩
          have hG : Rb (bn (!g.s) g.i true g.v g.o D) n := (Rb_red ..).2 ⟨hgo, q2, c6, q4⟩
          obtain ⟨t', b', m1, m2, m3, m4, m5⟩ := mend_done z7 rfl hP ⟨hG, (fun e => by cases e), c7⟩ rfl 0
          refine ⟨1, t', b', .inn 0 t t' b.rid f.i g.i g.o.rid g.s e3 e1 kf3 kf4 g1 kg3 g2 kg2 hu hured (by rw [e2, hs']) (by rw [← hs', kf1]) tok1 (by rw [hup1, hi]) (by rw [hi]; exact tok2) (by rw [hi]; exact m1), m2, m3, m4, ?_⟩
          rw [m5]
          show (plug (bn g.s i false v (bn g.s f.i true f.v f.o M) (bn (!g.s) g.i true g.v g.o D)) fs).keys = (plug (bn g.s g.i g.c g.v (bn f.s f.i f.c f.v b f.o) g.o) fs).keys
          refine keys_plug ?_
          rw [hs', hbe]
          cases g.s <;> simp [keys_bn]
end Tr
end Go.Proofs.Ytgjacmkedgbneaa

namespace Go.Proofs.Ytgjacmkedgbneaa
namespace Tr
open Wd Tn Ky

def sd : List F → Bool
  | [] => false
  | f :: _ => f.s
def keysL : List F → List K
  | [] => []
  | f :: fs => keysL fs ++ if f.s then f.o.keys ++ [(f.v, f.i)] else []
def keysR : List F → List K
  | [] => []
  | f :: fs => (if f.s then [] else (f.v, f.i) :: f.o.keys) ++ keysR fs
theorem keys_all (fs : List F) : ∀ b : B, (plug b fs).keys = keysL fs ++ b.keys ++ keysR fs := by
  induction fs with
  | nil => intro b; simp [plug, keysL, keysR]
  | cons f fs ih =>
    intro b
    show (plug (f.put b) fs).keys = _
    rw [ih, F.put, keys_bn]
    cases hs : f.s <;> simp [keysL, keysR, hs]
theorem SubC.inn {t : T} : {fs : List F} → {x : Int} → SubC t fs x → ∀ i ∈ idsC fs, (t.nd i).inn = true
  | [], _, _, i, hi => by cases hi
  | f :: fs, x, h, i, hi => by
    simp only [idsC, List.mem_cons, List.mem_append] at hi
    rcases hi with rfl | hi | hi
    · rw [h.2.1]; rfl
    · exact (h.2.2.1.has i hi).2
    · exact SubC.inn h.2.2.2 i hi
/-- A node comes to a place where nothing stood. -/
theorem Z.ins {t : T} {fs : List F} {id : Int} (v : Int) (h : Z t .L fs) (hid : t.has id) (hn : id ∉ idsC fs) : Z ((t.put id (nNew v)).hang (upOf fs) (sd fs) id) (bn false id true v .L .L) fs := by
  have l0 : (t.put id (nNew v)).ns.length = t.ns.length := put_len _ _ _
  have l1 : ((t.put id (nNew v)).hang (upOf fs) (sd fs) id).ns.length = t.ns.length := (hang_len _ _ _ _).trans l0
  have hu := h.ctx.ok
  have hne : id ≠ upOf fs := fun e => (upOf_mem fs).elim (fun w => has_ne hid (e.trans w)) (fun w => hn (by rw [e]; exact w))
  have nd1 : ∀ {j : Int}, 0 ≤ j → ((t.put id (nNew v)).hang (upOf fs) (sd fs) id).nd j = _ := fun hj => nd_hang ((ok_len l0).2 hu) (.inr ((has_len l0).2 hid)) (sd fs) hj
  have e1 : ((t.put id (nNew v)).hang (upOf fs) (sd fs) id).nd id = nodeOf false true v (-1) (-1) (upOf fs) := by
    rw [nd1 hid.1, if_pos rfl, if_neg hne, nd_put_same hid]; rfl
  have e2 : ∀ j, 0 ≤ j → j ≠ id → j ≠ upOf fs → ((t.put id (nNew v)).hang (upOf fs) (sd fs) id).nd j = t.nd j := fun j hj q1 q2 => by
    rw [nd1 hj, if_neg q1, if_neg q2, nd_put hid _ hj, if_neg q1]
  have e3 : upOf fs ≠ -1 → ((t.put id (nNew v)).hang (upOf fs) (sd fs) id).nd (upOf fs) = (t.nd (upOf fs)).setKid (sd fs) id := fun q => by
    have h0 := (hu.resolve_left q).1
    rw [nd1 h0, if_neg (fun e => hne e.symm), if_pos rfl, nd_put hid _ h0, if_neg (fun e => hne e.symm)]
  have e4 : ((t.put id (nNew v)).hang (upOf fs) (sd fs) id).root = if upOf fs = -1 then id else t.root := by rw [root_hang]; rfl
  generalize (t.put id (nNew v)).hang (upOf fs) (sd fs) id = t' at l1 e1 e2 e3 e4
  have hd : (idsC fs).Nodup := by simpa [B.ids] using h.nod
  refine ⟨by rw [l1]; exact h.len, (Sub_bn ..).2 ⟨(has_len l1).2 hid, e1, trivial, trivial⟩, SubC.put l1 hd (fun j hj q => e2 j (h.ctx.has j hj).1 (fun e => hn (by rw [← e]; exact hj)) q) e4 (fun f gs e => ?_) h.ctx, ?_, fun j hj m1 m2 => ?_⟩
  · subst e
    exact e3 (has_ne h.ctx.1)
  · show ([] ++ id :: ([] : List Int) ++ idsC fs).Nodup
    exact List.nodup_cons.2 ⟨hn, hd⟩
  · have hj' := (has_len l1).1 hj
    have q1 : j ≠ id := fun e => m1 (by rw [e]; simp [bn, B.ids])
    rw [e2 j hj'.1 q1 (fun e => (upOf_mem fs).elim (fun w => has_ne hj' (e.trans w)) (fun w => m2 (by rw [e]; exact w)))]
    exact h.rest j hj' (by simp [B.ids]) m2

theorem down_all {m : Int} {k : K} {t : T} : (b : B) → ∀ {fs : List F} {n : Nat}, Z t b fs → okK m b.keys → (∀ x ∈ keysL fs, ltK m k x = false) → (∀ x ∈ keysR fs, ltK m k x = true) →
    Rb b n → RbC fs n → (b.isRed = true → topRed fs = false ∧ fs ≠ []) →
    ∃ (d : Nat) (fs' : List F), Down m k t d b.rid (upOf fs) (sd fs) (upOf fs') (sd fs') ∧ Z t .L fs' ∧ plug .L fs' = plug b fs ∧ RbC fs' 0 ∧ (∀ x ∈ keysL fs', ltK m k x = false) ∧ (∀ x ∈ keysR fs', ltK m k x = true)
  | .L, fs, n, h, _, hL, hR, hb, hc, _ => by
    have : n = 0 := hb
    subst this
    exact ⟨0, fs, .stop 0 _ _ h.ctx.ok, h, rfl, hc, hL, hR⟩
  | .N i c v kk, fs, n, h, hok, hL, hR, hb, hc, hcr => by
    obtain ⟨s, hs⟩ : ∃ s, (!(ltK m k (t.key i))) = s := ⟨_, rfl⟩
    have he := bn_eta s i c v kk
    have hkey : t.key i = (v, i) := by unfold T.key; rw [h.sub.2.1]
    have hi : t.has i := h.sub.1
    have hz : Z t (kk s) (⟨s, i, c, v, kk (!s)⟩ :: fs) := by
      rw [Z_step]
      show Z t (bn s i c v (kk s) (kk (!s))) fs
      rw [← he]; exact h
    have hkid : t.kid i s = (kk s).rid := (kid_frame hz).1
    rw [he] at hb
    have hrb : ∃ n', Rb (kk s) n' ∧ RbC (⟨s, i, c, v, kk (!s)⟩ :: fs) n' ∧ ((kk s).isRed = true → topRed (⟨s, i, c, v, kk (!s)⟩ :: fs) = false ∧ (⟨s, i, c, v, kk (!s)⟩ :: fs) ≠ []) := by
      cases c with
      | true =>
        obtain ⟨q1, q2, q3, q4⟩ := (Rb_red ..).1 hb
        exact ⟨n, q3, ⟨q4, fun _ => ⟨q2, (hcr rfl).1, (hcr rfl).2⟩, hc⟩, fun e => by rw [q1] at e; cases e⟩
      | false =>
        obtain ⟨n', rfl, q3, q4⟩ := (Rb_black ..).1 hb
        exact ⟨n', q3, ⟨q4, (fun e => by cases e), hc⟩, fun _ => ⟨rfl, by simp⟩⟩
    obtain ⟨n', r1, r2, r3⟩ := hrb
    have hok2 : okK m ((kk false).keys ++ (v, i) :: (kk true).keys) := hok
    unfold okK at hok2
    rw [List.pairwise_append] at hok2
    obtain ⟨o1, o2, o3⟩ := hok2
    obtain ⟨o4, o5⟩ := List.pairwise_cons.1 o2
    cases hsv : s with
    | false =>
      subst hsv
      have hlt : ltK m k (v, i) = true := by rw [← hkey]; simpa using hs
      obtain ⟨d, fs', a1, a2, a3, a4, a5, a6⟩ := down_all (kk false) hz o1 (fun x hx => hL x (by simpa [keysL] using hx)) (fun x hx => by
        simp only [keysR, Bool.false_eq_true, if_false, List.cons_append, List.mem_cons, List.mem_append] at hx
        rcases hx with rfl | hx | hx
        · exact hlt
        · exact lt_trans hlt (o4 x hx).1
        · exact hR x hx) r1 r2 r3
      refine ⟨d + 1, fs', .step d i (upOf fs) (upOf fs') (sd fs) (sd fs') hi ?_, a2, ?_, a4, a5, a6⟩
      · rw [hs, hkid]; exact a1
      · rw [a3]; show plug (bn false i c v (kk false) (kk (!false))) fs = _; rw [← he]
    | true =>
      subst hsv
      have hlt : ltK m k (v, i) = false := by rw [← hkey]; simpa using hs
      obtain ⟨d, fs', a1, a2, a3, a4, a5, a6⟩ := down_all (kk true) hz o5 (fun x hx => by
        simp only [keysL, if_true, List.mem_append, List.mem_cons, List.not_mem_nil, or_false] at hx
        rcases hx with hx | hx | rfl
        · exact hL x hx
        · cases hc' : ltK m k x with
          | false => rfl
          | true => rw [lt_trans hc' (o3 x hx (v, i) (by simp)).1] at hlt; cases hlt
        · exact hlt) (fun x hx => hR x (by simpa [keysR] using hx)) r1 r2 r3
      refine ⟨d + 1, fs', .step d i (upOf fs) (upOf fs') (sd fs) (sd fs') hi ?_, a2, ?_, a4, a5, a6⟩
      · rw [hs, hkid]; exact a1
      · rw [a3]; show plug (bn true i c v (kk true) (kk (!true))) fs = _; rw [← he]

theorem okK_ins {m : Int} {k : K} {l r : List K} (hok : okK m (l ++ r)) (hkin : Kin k) (hk : ∀ x ∈ l ++ r, Kin x ∧ x.2 ≠ k.2) (hl : ∀ x ∈ l, ltK m k x = false) (hr : ∀ x ∈ r, ltK m k x = true) : okK m (l ++ k :: r) := by
  unfold okK at *
  rw [List.pairwise_append] at hok ⊢
  obtain ⟨o1, o2, o3⟩ := hok
  refine ⟨o1, List.pairwise_cons.2 ⟨fun x hx => ⟨hr x hx, fun e => (hk x (by simp [hx])).2 e.symm⟩, o2⟩, fun a ha b hb => ?_⟩
  rcases List.mem_cons.1 hb with rfl | hb
  · refine ⟨?_, (hk a (by simp [ha])).2⟩
    cases hc : ltK m a b with
    | true => rfl
    | false => exact absurd (congrArg Prod.snd (lt_same hkin (hk a (by simp [ha])).1 (hl a ha) hc)).symm (hk a (by simp [ha])).2
  · exact o3 a ha b hb
theorem ids_keys : (b : B) → b.ids = b.keys.map (·.2)
  | .L => rfl
  | .N i c v k => by simp [B.ids, B.keys, ids_keys (k false), ids_keys (k true)]
/-- A right tree, and one key more. -/
theorem ins_all {m : Int} {k : K} {t : T} {b : B} (hw : Whole t b) (hr : RightB m b) (hkin : Kin k) (hU : ∀ x ∈ b.keys, Kin x) (hk : t.has k.2) (hi : (t.nd k.2).inn = false) :
    ∃ (n n2 : Nat) (u : Int) (s : Bool) (t' : T) (b' : B), Down m k t n t.root (-1) false u s ∧ Mend n2 ((t.put k.2 (nNew k.1)).hang u s k.2) k.2 t' ∧ Whole t' b' ∧ RightB m b' ∧
      ∃ l r, b.keys = l ++ r ∧ b'.keys = l ++ k :: r ∧ (∀ x ∈ l, ltK m k x = false) ∧ (∀ x ∈ r, ltK m k x = true) := by
  obtain ⟨r1, r2, r3⟩ := hr
  obtain ⟨N, hN⟩ := (plain_iff b).1.1 r3
  obtain ⟨d, fs, a1, a2, a3, a4, a5, a6⟩ := down_all (m := m) (k := k) b ((Z_whole t b).2 hw) r2 (fun x hx => by cases hx) (fun x hx => by cases hx) hN trivial (fun e => by rw [r1] at e; cases e)
  have hnid : k.2 ∉ idsC fs := fun e => by have := a2.ctx.inn k.2 e; rw [hi] at this; cases this
  have z := a2.ins k.1 hk hnid
  have hrb0 : Rb (bn false k.2 true k.1 .L .L) 0 := (Rb_red ..).2 ⟨rfl, rfl, rfl, rfl⟩
  obtain ⟨n2, t', b', m1, m2, m3, ⟨N', m4⟩, m5⟩ := mend_all fs.length (Nat.le_refl _) z rfl hrb0 a4
  have hkeys : b.keys = keysL fs ++ keysR fs := by
    have h1 := keys_all fs .L
    rw [a3] at h1
    simpa [plug, B.keys] using h1
  have hkeys' : b'.keys = keysL fs ++ k :: keysR fs := by
    rw [m5, keys_all]
    simp [keys_bn, B.keys]
  have hnk : ∀ x ∈ b.keys, x.2 ≠ k.2 := fun x hx e => by
    have hx2 : x.2 ∈ b.ids := by rw [ids_keys]; exact List.mem_map.2 ⟨x, hx, rfl⟩
    have := (hw.sub.has x.2 hx2).2
    rw [e, hi] at this
    cases this
  refine ⟨d, n2, upOf fs, sd fs, t', b', by rw [hw.root]; exact a1, m1, m2, ⟨m3, ?_, (plain_iff b').1.2 ⟨N', m4⟩⟩, keysL fs, keysR fs, hkeys, hkeys', a5, a6⟩
  rw [hkeys']
  exact okK_ins (by rw [← hkeys]; exact r2) hkin (fun x hx => by rw [← hkeys] at hx; exact ⟨hU x hx, hnk x hx⟩) a5 a6
end Tr
end Go.Proofs.Ytgjacmkedgbneaa

namespace Go.Proofs.Ytgjacmkedgbneaa
namespace Tr
open Wd Tn Ky

/-- What filling comes to. -/
def Filled (t : T) (u : Int) (s : Bool) (ks : List K) : Prop := ∃ (n : Nat) (t' : T) (b' : B), Fill n t u s t' ∧ Whole t' b' ∧ b'.isRed = false ∧ (∃ m, Rb b' m) ∧ b'.keys = ks
/-- One too few on each way; a Red root may have Red children. -/
def RbF : B → Nat → Prop
  | .N _ true _ k, n => Rb (k false) n ∧ Rb (k true) n
  | b, n => Rb b n
theorem RbF_red (s : Bool) (i v : Int) (x o : B) (n : Nat) : RbF (bn s i true v x o) n ↔ Rb x n ∧ Rb o n := by
  cases s
  · simp [bn, RbF]
  · simp only [bn, RbF, if_true, Bool.false_eq_true, if_false]
    exact and_comm
theorem RbF_black {b : B} {n : Nat} (hb : b.isRed = false) : RbF b n ↔ Rb b n := by
  cases b with
  | L => rfl
  | N i c v k => rw [B.isRed] at hb; subst hb; rfl
theorem RbF_of {b : B} {n : Nat} (h : Rb b n) : RbF b n := by
  cases hr : b.isRed with
  | false => exact (RbF_black hr).2 h
  | true =>
    obtain ⟨i, v, x, o, rfl⟩ := red_split hr false
    exact (RbF_red ..).2 ((Rb_red ..).1 h).2.2
theorem black_split {b : B} {n : Nat} (h : Rb b (n + 1)) (hr : b.isRed = false) (s : Bool) : ∃ i v x o, b = bn s i false v x o ∧ Rb x n ∧ Rb o n := by
  cases b with
  | L => cases h
  | N i c v k =>
    rw [B.isRed] at hr
    subst hr
    refine ⟨i, v, k s, k (!s), bn_eta s i false v k, ?_⟩
    rw [bn_eta s i false v k] at h
    obtain ⟨m, e, h1, h2⟩ := (Rb_black ..).1 h
    have : n = m := by omega
    subst this
    exact ⟨h1, h2⟩
/-- Filled for good, the far child being Red. -/
theorem setfar_all {t : T} {x : B} {s : Bool} {u : Int} {c : Bool} {uv : Int} {fs : List F} {w wv d dv : Int} {M P Q : B} {n : Nat} (h : Z t x (⟨s, u, c, uv, bn s w false wv M (bn s d true dv P Q)⟩ :: fs))
    (hx : Rb x n) (hM : Rb M n) (hP : Rb P n) (hQ : Rb Q n) (hc : RbC fs (if c then n + 1 else n + 2)) (hcr : c = true → topRed fs = false ∧ fs ≠ []) :
    ∃ (t' : T) (b' : B), SetFar t u s t' ∧ Whole t' b' ∧ b'.isRed = false ∧ (∃ m, Rb b' m) ∧ b'.keys = (plug (bn s u c uv x (bn s w false wv M (bn s d true dv P Q))) fs).keys := by
  obtain ⟨kf1, kf2, kf3, kf4, kf5⟩ := kid_frame h
  simp only at kf1 kf2 kf3 kf4 kf5
  have hW := h.ctx.2.2.1
  obtain ⟨w1, w2, w3, w4⟩ := (Sub_bn ..).1 hW
  have hD := (Sub_bn ..).1 w4
  have kw : t.kid w (!s) = d := by unfold T.kid; rw [w2]; exact (nodeOf_kid ..).2.1
  have ured : (t.nd u).red = c := by rw [← redB_of kf3]; exact kf4
  -- w takes u's color
  have z1 := h.over
  simp only at z1
  have z2 := z1.paint c
  have z3 := z2.paintUp false
  have z4 : Z ((t.paint w c).paint u false) (bn s d true dv P Q) (⟨!s, w, c, wv, M⟩ :: ⟨!s, u, false, uv, x⟩ :: fs) := by
    rw [Z_step]
    show Z _ (bn (!s) w c wv (bn s d true dv P Q) M) _
    have e := bn_swap s w c wv M (bn s d true dv P Q)
    rw [← e]
    exact z3
  have z5 := z4.paint false
  have z6 := (Z_step ..).1 ((Z_step ..).1 z5)
  have z7 : Z (((t.paint w c).paint u false).paint d false) (bn s u false uv x (bn s w c wv M (bn s d false dv P Q))) fs := by
    have e : F.put ⟨!s, u, false, uv, x⟩ (F.put ⟨!s, w, c, wv, M⟩ (bn s d false dv P Q)) = bn s u false uv x (bn s w c wv M (bn s d false dv P Q)) := by
      show bn (!s) u false uv (bn (!s) w c wv (bn s d false dv P Q) M) x = _
      rw [← bn_swap s w, ← bn_swap s u]
    rw [← e]
    exact z6
  obtain ⟨tok, z8⟩ := z7.turn
  have hD' : Rb (bn s d false dv P Q) (n + 1) := (Rb_black ..).2 ⟨n, rfl, hP, hQ⟩
  have hU : Rb (bn s u false uv x M) (n + 1) := (Rb_black ..).2 ⟨n, rfl, hx, hM⟩
  have hB : Rb (bn s w c wv (bn s u false uv x M) (bn s d false dv P Q)) (if c then n + 1 else n + 2) := by
    cases c with
    | true => exact (Rb_red ..).2 ⟨rfl, rfl, hU, hD'⟩
    | false => exact (Rb_black ..).2 ⟨n + 1, rfl, hU, hD'⟩
  obtain ⟨p1, p2⟩ := Rb_plug hB hc (fun e => hcr (by rw [isRed_bn] at e; exact e))
  refine ⟨_, _, ⟨w, d, kf3, kf2, w1, kw, hD.1, ?_, rfl⟩, (Z_plug ..).1 (by rw [ured]; exact z8), p1, p2, ?_⟩
  · rw [ured]; exact tok
  · refine keys_plug ?_
    cases s <;> simp [keys_bn]

/-- Filled for good. -/
theorem settle_all {t : T} {x : B} {s : Bool} {u : Int} {c : Bool} {uv : Int} {fs : List F} {w wv : Int} {M D : B} {n : Nat} (h : Z t x (⟨s, u, c, uv, bn s w false wv M D⟩ :: fs))
    (hx : Rb x n) (hM : Rb M n) (hD : Rb D n) (hc : RbC fs (if c then n + 1 else n + 2)) (hcr : c = true → topRed fs = false ∧ fs ≠ []) (hr : M.isRed = true ∨ D.isRed = true) :
    ∃ (t' : T) (b' : B), Settle t u s t' ∧ Whole t' b' ∧ b'.isRed = false ∧ (∃ m, Rb b' m) ∧ b'.keys = (plug (bn s u c uv x (bn s w false wv M D)) fs).keys := by
  obtain ⟨kf1, kf2, kf3, kf4, kf5⟩ := kid_frame h
  simp only at kf1 kf2 kf3 kf4 kf5
  have hW := h.ctx.2.2.1
  obtain ⟨w1, w2, w3, w4⟩ := (Sub_bn ..).1 hW
  have kw : t.kid w (!s) = D.rid := by unfold T.kid; rw [w2]; exact (nodeOf_kid ..).2.1
  have kw' : t.kid w s = M.rid := by unfold T.kid; rw [w2]; exact (nodeOf_kid ..).1
  cases hDr : D.isRed with
  | true =>
    obtain ⟨d, dv, P, Q, rfl⟩ := red_split hDr s
    obtain ⟨q1, q2, q3, q4⟩ := (Rb_red ..).1 hD
    obtain ⟨t', b', m1, m2⟩ := setfar_all h hx hM q3 q4 hc hcr
    exact ⟨t', b', ⟨w, _, kf3, kf2, w1, kw, w4.ok, .inl ⟨by rw [w4.red]; rfl, m1⟩⟩, m2⟩
  | false =>
    have hMr := hr.resolve_right (by rw [hDr]; decide)
    obtain ⟨m, mv, Q, P, rfl⟩ := red_split hMr (!s)
    obtain ⟨q1, q2, q3, q4⟩ := (Rb_red ..).1 hM
    have hm := ((Sub_bn ..).1 w3).1
    -- the near child is painted, then w, and w is turned
    have z1 := h.over
    simp only at z1
    have z2 : Z t (bn (!s) m true mv Q P) (⟨s, w, false, wv, D⟩ :: ⟨!s, u, c, uv, x⟩ :: fs) := by
      rw [Z_step]
      exact z1
    have z3 := (z2.paint false).paintUp true
    have z4 := (Z_step ..).1 z3
    have z5 : Z ((t.paint m false).paint w true) (bn (!s) w true wv D (bn (!s) m false mv Q P)) (⟨!s, u, c, uv, x⟩ :: fs) := by
      have e : F.put (F.paint ⟨s, w, false, wv, D⟩ true) (bn (!s) m false mv Q P) = bn (!s) w true wv D (bn (!s) m false mv Q P) := by
        show bn s w true wv (bn (!s) m false mv Q P) D = _
        rw [bn_swap s w]
      rw [← e]
      exact z4
    obtain ⟨tok, z6⟩ := z5.turn
    have z7 : Z (((t.paint m false).paint w true).turn w (!s)) x (⟨s, u, c, uv, bn s m false mv P (bn s w true wv Q D)⟩ :: fs) := by
      have z := z6.over
      simp only [Bool.not_not] at z
      have e : bn (!s) m false mv (bn (!s) w true wv D Q) P = bn s m false mv P (bn s w true wv Q D) := by
        rw [bn_swap s m, bn_swap s w]
      rw [e] at z
      exact z
    obtain ⟨t', b', m1, m2, m3, m4, m5⟩ := setfar_all z7 hx q4 q3 hD hc hcr
    refine ⟨t', b', ⟨w, _, kf3, kf2, w1, kw, w4.ok, .inr ⟨by rw [w4.red]; exact hDr, m, kw', hm, tok, m1⟩⟩, m2, m3, m4, ?_⟩
    rw [m5]
    refine keys_plug ?_
    cases s <;> simp [keys_bn]

theorem place_up {t : T} {b : B} {fs : List F} (h : Z t b fs) (hb : b.rid ≠ -1) : t.up b.rid = upOf fs ∧ t.side b.rid = sd fs := by
  cases fs with
  | nil =>
    have e := h.top.2 hb
    refine ⟨e, ?_⟩
    unfold T.side
    rw [e]
    rfl
  | cons f fs => exact ⟨(h.side hb).1, (h.side hb).2.1⟩

/-- Where the other child is not Red. -/
theorem fill_black {t : T} {x : B} {s : Bool} {u : Int} {c : Bool} {uv : Int} {fs : List F} {w wv : Int} {M D : B} {n : Nat} (h : Z t x (⟨s, u, c, uv, bn s w false wv M D⟩ :: fs))
    (hxr : x.isRed = false) (hx : Rb x n) (hM : Rb M n) (hD : Rb D n) (hc : RbC fs (if c then n + 1 else n + 2)) (hcr : c = true → topRed fs = false ∧ fs ≠ [])
    (ih : ∀ (t2 : T), Z t2 (bn s u c uv x (bn s w true wv M D)) fs → RbF (bn s u c uv x (bn s w true wv M D)) (if c then n else n + 1) → Filled t2 (upOf fs) (sd fs) (plug (bn s u c uv x (bn s w true wv M D)) fs).keys) :
    Filled t u s (plug (bn s u c uv x (bn s w false wv M D)) fs).keys := by
  obtain ⟨kf1, kf2, kf3, kf4, kf5⟩ := kid_frame h
  simp only at kf1 kf2 kf3 kf4 kf5
  have hW := h.ctx.2.2.1
  obtain ⟨w1, w2, w3, w4⟩ := (Sub_bn ..).1 hW
  have hk : t.ok (t.kid u s) := by rw [kf1]; exact h.sub.ok
  have hrk : t.redB (t.kid u s) = false := by rw [kf1, h.sub.red]; exact hxr
  have hwr : t.redB w = false := by rw [redB_of w1, w2]; exact (nodeOf_kid ..).2.2.2
  have kw : t.kid w (!s) = D.rid := by unfold T.kid; rw [w2]; exact (nodeOf_kid ..).2.1
  have kw' : t.kid w s = M.rid := by unfold T.kid; rw [w2]; exact (nodeOf_kid ..).1
  have both : ∀ p : Int → Prop, p (t.kid w s) → p (t.kid w (!s)) → p (t.kid w false) ∧ p (t.kid w true) := fun p h1 h2 => by cases s <;> exact ⟨by assumption, by assumption⟩
  have oks := both t.ok (by rw [kw']; exact w3.ok) (by rw [kw]; exact w4.ok)
  by_cases hr : M.isRed = true ∨ D.isRed = true
  · obtain ⟨t', b', m1, m2, m3, m4, m5⟩ := settle_all h hx hM hD hc hcr hr
    have hrr : (t.redB (t.kid w false) || t.redB (t.kid w true)) = true := by
      have e1 : t.redB (t.kid w s) = M.isRed := by rw [kw', w3.red]
      have e2 : t.redB (t.kid w (!s)) = D.isRed := by rw [kw, w4.red]
      rw [Bool.or_eq_true]
      cases s
      · rcases hr with hr | hr
        · exact .inl (e1.trans hr)
        · exact .inr (e2.trans hr)
      · rcases hr with hr | hr
        · exact .inr (e1.trans hr)
        · exact .inl (e2.trans hr)
    exact ⟨0, t', b', .settle 0 t t' u w s kf3 hk hrk kf2 w1 hwr oks.1 oks.2 hrr m1, m2, m3, m4, m5⟩
  · have hMr : M.isRed = false := by simpa using fun e => hr (.inl e)
    have hDr : D.isRed = false := by simpa using fun e => hr (.inr e)
    have z1 := h.over
    simp only at z1
    have z2 := (z1.paint true).over
    simp only [Bool.not_not] at z2
    have z3 := (Z_step ..).1 z2
    have hW' : Rb (bn s w true wv M D) n := (Rb_red ..).2 ⟨hMr, hDr, hM, hD⟩
    have hF : RbF (bn s u c uv x (bn s w true wv M D)) (if c then n else n + 1) := by
      cases c with
      | true => exact (RbF_red ..).2 ⟨hx, hW'⟩
      | false => exact (RbF_black rfl).2 ((Rb_black ..).2 ⟨n, rfl, hx, hW'⟩)
    obtain ⟨k, t', b', m1, m2, m3, m4, m5⟩ := ih _ z3 hF
    have hpl := place_up z3 (show (bn s u c uv x (bn s w true wv M D)).rid ≠ -1 from has_ne kf3)
    have hpl1 : (t.paint w true).up u = upOf fs := hpl.1
    have hpl2 : (t.paint w true).side u = sd fs := hpl.2
    have hrr : (t.redB (t.kid w false) || t.redB (t.kid w true)) = false := by
      have e1 : t.redB (t.kid w s) = false := by rw [kw', w3.red]; exact hMr
      have e2 : t.redB (t.kid w (!s)) = false := by rw [kw, w4.red]; exact hDr
      rw [Bool.or_eq_false_iff]
      cases s
      · exact ⟨e1, e2⟩
      · exact ⟨e2, e1⟩
    refine ⟨k + 1, t', b', .up k t t' u w s kf3 hk hrk kf2 w1 hwr oks.1 oks.2 hrr (by rw [hpl1]; exact z3.ctx.ok) (by rw [hpl1, hpl2]; exact m1), m2, m3, m4, ?_⟩
    rw [m5]
    refine keys_plug ?_
    rw [keys_bn, keys_bn, keys_bn, keys_bn]

/-- A Red node at the place. -/
theorem fill_red {t : T} {x : B} {f : F} {fs : List F} {n : Nat} (h : Z t x (f :: fs)) (hxr : x.isRed = true) (hx : RbF x n) (hc : RbC (f :: fs) (n + 1)) : Filled t f.i f.s (plug x (f :: fs)).keys := by
  obtain ⟨kf1, kf2, kf3, kf4, kf5⟩ := kid_frame h
  obtain ⟨i, v, y, o, rfl⟩ := red_split hxr false
  obtain ⟨q1, q2⟩ := (RbF_red ..).1 hx
  have hi : t.has i := ((Sub_bn ..).1 h.sub).1
  have hb : Rb (bn false i false v y o) (n + 1) := (Rb_black ..).2 ⟨n, rfl, q1, q2⟩
  obtain ⟨p1, p2⟩ := Rb_plug hb hc (fun e => by cases e)
  refine ⟨0, t.paint i false, _, .redp 0 t f.i i f.s kf3 kf1 hi (by rw [redB_of hi, ((Sub_bn ..).1 h.sub).2.1]; exact (nodeOf_kid ..).2.2.2), (Z_plug ..).1 (h.paint false), p1, p2, ?_⟩
  refine keys_plug ?_
  rw [keys_bn, keys_bn]
/-- Filling comes to a right tree. -/
theorem fill_all : (fs : List F) → ∀ {t : T} {x : B} {n : Nat}, Z t x fs → RbF x n → RbC fs (n + 1) → Filled t (upOf fs) (sd fs) (plug x fs).keys
  | [], t, x, n, h, hx, hc => by
    have hroot : t.root = x.rid := h.ctx
    cases hxr : x.isRed with
    | true =>
      obtain ⟨i, v, y, o, rfl⟩ := red_split hxr false
      obtain ⟨q1, q2⟩ := (RbF_red ..).1 hx
      have hi : t.has i := ((Sub_bn ..).1 h.sub).1
      have hne : t.root ≠ -1 := by rw [hroot]; exact has_ne hi
      refine ⟨0, _, bn false i false v y o, .root 0 t false (by rw [hroot]; exact .inr hi), ?_, rfl, ⟨n + 1, (Rb_black ..).2 ⟨n, rfl, q1, q2⟩⟩, ?_⟩
      · rw [if_neg hne, hroot, ← Z_whole]; exact h.paint false
      · show _ = (bn false i true v y o).keys
        rw [keys_bn, keys_bn]
    | false =>
      refine ⟨0, _, x, .root 0 t false (by rw [hroot]; exact h.sub.ok), ?_, hxr, ⟨n, (RbF_black hxr).1 hx⟩, rfl⟩
      have hw := (Z_whole t x).1 h
      by_cases hz : t.root = -1
      · rw [if_pos hz]; exact hw
      · rw [if_neg hz]
        have hi : t.has t.root := by rw [hroot]; exact h.sub.ok.resolve_left (by rw [← hroot]; exact hz)
        rw [paint_same hi (by rw [← redB_of hi, hroot, h.sub.red]; exact hxr)]
        exact hw
  | f :: fs, t, x, n, h, hx, hc => by
    cases hxr : x.isRed with
    | true => exact fill_red h hxr hx hc
    | false =>
      have hxb := (RbF_black hxr).1 hx
      obtain ⟨s, u, c, uv, W⟩ := f
      obtain ⟨c1, c2, c3⟩ := hc
      simp only at c1 c2 c3
      show Filled t u s (plug (bn s u c uv x W) fs).keys
      cases hWr : W.isRed with
      | false =>
        obtain ⟨w, wv, M, D, rfl, hM, hD⟩ := black_split c1 hWr s
        refine fill_black h hxr hxb hM hD c3 (fun e => (c2 e).2) (fun t2 z2 hF => ?_)
        refine fill_all fs z2 hF ?_
        cases c with
        | true => exact c3
        | false => exact c3
      | true =>
        have hcf : c = false := by
          cases hc' : c with
          | false => rfl
          | true => have := (c2 hc').1; rw [hWr] at this; cases this
        subst hcf
        obtain ⟨w, wv, M, D, rfl⟩ := red_split hWr s
        obtain ⟨q1, q2, q3, q4⟩ := (Rb_red ..).1 c1
        obtain ⟨kf1, kf2, kf3, kf4, kf5⟩ := kid_frame h
        simp only at kf1 kf2 kf3 kf4 kf5
        have hW := h.ctx.2.2.1
        obtain ⟨w1, w2, w3, w4⟩ := (Sub_bn ..).1 hW
        have z1 := h.over
        simp only at z1
        have z2 := ((z1.paint false).paintUp true).over
        simp only [F.paint, Bool.not_not] at z2
        have z3 : Z ((t.paint w false).paint u true) (bn s u true uv x (bn s w false wv M D)) fs := (Z_step ..).1 z2
        obtain ⟨tok, z4⟩ := z3.turn
        have z5 : Z (((t.paint w false).paint u true).turn u s) x (⟨s, u, true, uv, M⟩ :: ⟨s, w, false, wv, D⟩ :: fs) := by
          rw [Z_step, Z_step]
          exact z4
        obtain ⟨m, mv, M1, M2, hMe, hM1, hM2⟩ := black_split q3 q1 s
        subst hMe
        obtain ⟨kg1, kg2, kg3, kg4, kg5⟩ := kid_frame z5
        simp only at kg1 kg2 kg3 kg4 kg5
        have hMo := z5.ctx.2.2.1
        obtain ⟨k, t', b', m1, m2, m3, m4, m5⟩ := fill_black z5 hxr hxb hM1 hM2 ⟨q4, (fun e => by cases e), c3⟩ (fun _ => ⟨rfl, by simp⟩) (fun t2 zz hF => by
          refine fill_red zz rfl hF ?_
          exact ⟨q4, (fun e => by cases e), c3⟩)
        refine ⟨k + 1, t', b', .turn k t t' u w s kf3 (by rw [kf1]; exact h.sub.ok) (by rw [kf1, h.sub.red]; exact hxr) kf2 w1 (by rw [redB_of w1, w2]; exact (nodeOf_kid ..).2.2.2) tok (by rw [kg1, z5.sub.red]; exact hxr) (by rw [kg2, hMo.red]; rfl) m1, m2, m3, m4, ?_⟩
        rw [m5]
        show (plug (bn s w false wv (bn s u true uv x (bn s m false mv M1 M2)) D) fs).keys = _
        refine keys_plug ?_
        cases s <;> simp [keys_bn]
end Tr
end Go.Proofs.Ytgjacmkedgbneaa

namespace Go.Proofs.Ytgjacmkedgbneaa
namespace Tr
open Wd Tn Ky

/-- All of it but the node e, seen from a place. -/
structure ZE (t : T) (b : B) (fs : List F) (e : Int) : Prop where
  len : t.ns.length ≤ 64
  sub : Sub t b (upOf fs)
  ctx : SubC t fs b.rid
  nod : (b.ids ++ idsC fs).Nodup
  he : t.has e
  out : e ∉ b.ids ∧ e ∉ idsC fs
  rest : ∀ i, t.has i → i ≠ e → i ∉ b.ids → i ∉ idsC fs → t.nd i = nE
theorem ZE_step (t : T) (b : B) (f : F) (fs : List F) (e : Int) : ZE t b (f :: fs) e ↔ ZE t (f.put b) fs e := by
  have hp : (b.ids ++ idsC (f :: fs)).Perm ((f.put b).ids ++ idsC fs) := by
    have h1 := (ids_bn f.s f.i f.c f.v b f.o).symm.append_right (idsC fs)
    have e : b.ids ++ idsC (f :: fs) = b.ids ++ f.i :: f.o.ids ++ idsC fs := by simp [idsC]
    rw [e]
    exact h1
  have hm : ∀ i, (i ∉ (f.put b).ids ∧ i ∉ idsC fs) ↔ (i ∉ b.ids ∧ i ∉ idsC (f :: fs)) := fun i => by
    have := hp.mem_iff (a := i)
    rw [List.mem_append, List.mem_append] at this
    rw [← not_or, ← not_or, this]
  constructor
  · intro h
    obtain ⟨h1, h2, h3, h4⟩ := h.ctx
    exact ⟨h.len, (Sub_bn ..).2 ⟨h1, h2, h.sub, h3⟩, h4, hp.nodup_iff.1 h.nod, h.he, (hm e).2 h.out, fun i hi n0 n1 n2 => h.rest i hi n0 ((hm i).1 ⟨n1, n2⟩).1 ((hm i).1 ⟨n1, n2⟩).2⟩
  · intro h
    obtain ⟨h1, h2, h3, h4⟩ := (Sub_bn ..).1 h.sub
    exact ⟨h.len, h3, ⟨h1, h2, h4, h.ctx⟩, hp.nodup_iff.2 h.nod, h.he, (hm e).1 h.out, fun i hi n0 n1 n2 => h.rest i hi n0 ((hm i).2 ⟨n1, n2⟩).1 ((hm i).2 ⟨n1, n2⟩).2⟩
theorem ZE_plug (t : T) (gs : List F) (e : Int) : ∀ (b : B) (fs : List F), ZE t b (gs ++ fs) e ↔ ZE t (plug b gs) fs e := by
  induction gs with
  | nil => intro b fs; rfl
  | cons g gs ih => intro b fs; rw [List.cons_append, ZE_step, ih]; rfl
theorem Z_plug2 (t : T) (gs : List F) : ∀ (b : B) (fs : List F), Z t b (gs ++ fs) ↔ Z t (plug b gs) fs := by
  induction gs with
  | nil => intro b fs; rfl
  | cons g gs ih => intro b fs; rw [List.cons_append, Z_step, ih]; rfl
theorem plug_append (gs : List F) : ∀ (b : B) (fs : List F), plug b (gs ++ fs) = plug (plug b gs) fs := by
  induction gs with
  | nil => intro b fs; rfl
  | cons g gs ih => intro b fs; exact ih _ _
/-- What is left out is made empty. -/
theorem ZE.drop {t : T} {b : B} {fs : List F} {e : Int} (h : ZE t b fs e) : Z (t.put e nE) b fs := by
  have hl : (t.put e nE).ns.length = t.ns.length := put_len _ _ _
  have q : ∀ j, 0 ≤ j → j ≠ e → (t.put e nE).nd j = t.nd j := fun j hj hne => by rw [nd_put h.he _ hj, if_neg hne]
  refine ⟨by rw [hl]; exact h.len, h.sub.congr hl (fun j hj => q j (h.sub.has j hj).1.1 (fun w => h.out.1 (by rw [← w]; exact hj))), SubC.congr hl rfl (fun j hj => q j (h.ctx.has j hj).1 (fun w => h.out.2 (by rw [← w]; exact hj))) h.ctx, h.nod, fun j hj m1 m2 => ?_⟩
  have hj' := (has_len hl).1 hj
  by_cases hje : j = e
  · subst hje; exact nd_put_same h.he _
  · rw [q j hj'.1 hje]; exact h.rest j hj' hje m1 m2
/-- A node with one child, or none, is left out. -/
theorem Z.splice {t : T} {s : Bool} {z : Int} {c : Bool} {v : Int} {x : B} {fs : List F} (h : Z t (bn s z c v x .L) fs) :
    ZE (t.hang (upOf fs) (sd fs) x.rid) x fs z ∧ (t.hang (upOf fs) (sd fs) x.rid).nd z = t.nd z := by
  obtain ⟨h1, h2, h3, -⟩ := (Sub_bn ..).1 h.sub
  have hu := h.ctx.ok
  have hl : (t.hang (upOf fs) (sd fs) x.rid).ns.length = t.ns.length := hang_len _ _ _ _
  have hn := (((ids_bn s z c v x .L).append_right (idsC fs)).nodup_iff).1 h.nod
  rw [List.append_assoc, List.nodup_append] at hn
  obtain ⟨nX, n2, n3⟩ := hn
  have n2' : (z :: idsC fs).Nodup := by simpa [B.ids] using n2
  obtain ⟨n4, nC⟩ := List.nodup_cons.1 n2'
  have n3' : ∀ a ∈ x.ids, a ≠ z ∧ a ∉ idsC fs := fun a ha => ⟨n3 a ha z (by simp), fun w => n3 a ha a (by simp [w]) rfl⟩
  have hxm := rid_mem x
  have hum := upOf_mem fs
  have hzx : z ≠ x.rid := fun e => hxm.elim (fun w => has_ne h1 (e.trans w)) (fun w => (n3' x.rid w).1 e.symm)
  have hzu : z ≠ upOf fs := fun e => hum.elim (fun w => has_ne h1 (e.trans w)) (fun w => n4 (by rw [e]; exact w))
  have nd1 : ∀ {j : Int}, 0 ≤ j → (t.hang (upOf fs) (sd fs) x.rid).nd j = _ := fun hj => nd_hang hu h3.ok (sd fs) hj
  have other : ∀ j, 0 ≤ j → j ≠ x.rid → j ≠ upOf fs → (t.hang (upOf fs) (sd fs) x.rid).nd j = t.nd j := fun j hj e1 e2 => by rw [nd1 hj, if_neg e1, if_neg e2]
  have hxu : x.rid ≠ -1 → x.rid ≠ upOf fs := fun w e => hum.elim (fun q => w (e.trans q)) (fun q => (n3' x.rid (hxm.resolve_left w)).2 (by rw [e]; exact q))
  refine ⟨⟨by rw [hl]; exact h.len, ?_, ?_, ?_, (has_len hl).2 h1, ⟨fun w => (n3' z w).1 rfl, n4⟩, fun j hj m0 m1 m2 => ?_⟩, other z h1.1 hzx hzu⟩
  · refine h3.congrUp hl nX (fun j hj hne => other j (h3.has j hj).1.1 hne (fun e => hum.elim (fun q => by have := (h3.has j hj).1.1; omega) (fun q => (n3' j hj).2 (by rw [e]; exact q)))) (fun hne => ?_)
    have h0 := (h3.ok.resolve_left hne).1
    rw [nd1 h0, if_pos rfl, if_neg (hxu hne)]
  · refine SubC.put hl nC (fun j hj hne => other j (h.ctx.has j hj).1 (fun e => ?_) hne) (root_hang ..) (fun f gs e => ?_) h.ctx
    · rcases hxm with w | w
      · have := (h.ctx.has j hj).1; omega
      · exact (n3' x.rid w).2 (by rw [← e]; exact hj)
    · subst e
      have hfi := h.ctx.1
      have hne : f.i ≠ x.rid := fun e => hxm.elim (fun w => has_ne hfi (e.trans w)) (fun w => (n3' x.rid w).2 (by rw [← e]; simp [idsC]))
      have q := nd1 (j := f.i) hfi.1
      rw [if_neg hne, if_pos (show f.i = upOf (f :: gs) from rfl)] at q
      exact q
  · rw [List.nodup_append]; exact ⟨nX, nC, fun a ha b hb e => (n3' a ha).2 (by rw [e]; exact hb)⟩
  · have hj' := (has_len hl).1 hj
    rw [other j hj'.1 (fun e => hxm.elim (fun w => has_ne hj' (e.trans w)) (fun w => m1 (by rw [e]; exact w))) (fun e => hum.elim (fun w => has_ne hj' (e.trans w)) (fun w => m2 (by rw [e]; exact w)))]
    refine h.rest j hj' (fun w => ?_) m2
    have := (ids_bn s z c v x .L).mem_iff.1 w
    simp only [List.mem_append, List.mem_cons, B.ids, List.not_mem_nil, or_false] at this
    exact this.elim m1 m0

set_option maxHeartbeats 1000000 in
/-- y, which is left out, takes z's place. -/
theorem ZE.repl {t : T} {z : Int} {c : Bool} {v : Int} {R A : B} {fs : List F} {y : Int} (h : ZE t (bn true z c v R A) fs y) (hi : (t.nd y).inn = true) :
    let r2 := t.hang (t.up z) (t.side z) y
    let r3 := r2.hang y false (r2.kid z false)
    let r4 := r3.hang y true (r3.kid z true)
    t.ok (t.up z) ∧ r2.ok (r2.kid z false) ∧ r3.ok (r3.kid z true) ∧ ZE (r4.paint y (r4.nd z).red) (bn true y c (t.nd y).v R A) fs z := by
  intro r2 r3 r4
  obtain ⟨h1, h2, hR, hA⟩ := (Sub_bn ..).1 h.sub
  have hu := h.ctx.ok
  obtain ⟨u, hu0⟩ : ∃ u, upOf fs = u := ⟨_, rfl⟩
  obtain ⟨r, hr0⟩ : ∃ r, R.rid = r := ⟨_, rfl⟩
  obtain ⟨a, ha0⟩ : ∃ a, A.rid = a := ⟨_, rfl⟩
  obtain ⟨sz, hsz⟩ : ∃ s, t.side z = s := ⟨_, rfl⟩
  rw [hr0, ha0, hu0] at h2
  rw [hu0] at hu
  have hro := hR.ok
  have hao := hA.ok
  rw [hr0] at hro
  rw [ha0] at hao
  have hn := (((ids_bn true z c v R A).append_right (idsC fs)).nodup_iff).1 h.nod
  rw [List.append_assoc, List.cons_append, List.nodup_append] at hn
  obtain ⟨nR, n2, n3⟩ := hn
  obtain ⟨n4, n5⟩ := List.nodup_cons.1 n2
  rw [List.nodup_append] at n5
  obtain ⟨nA, nC, n6⟩ := n5
  have yo : y ∉ R.ids ∧ y ≠ z ∧ y ∉ A.ids ∧ y ∉ idsC fs := by
    have := h.out.1
    rw [(ids_bn true z c v R A).mem_iff] at this
    simp only [List.mem_append, List.mem_cons, not_or] at this
    exact ⟨this.1, this.2.1, this.2.2, h.out.2⟩
  have hrm : r = -1 ∨ r ∈ R.ids := by rw [← hr0]; exact rid_mem R
  have ham : a = -1 ∨ a ∈ A.ids := by rw [← ha0]; exact rid_mem A
  have hum : u = -1 ∨ u ∈ idsC fs := by rw [← hu0]; exact upOf_mem fs
  have hy := h.he
  have y0 := hy.1
  have z0 := h1.1
  have hyr : y ≠ r := fun e => hrm.elim (fun w => by omega) (fun w => yo.1 (by rw [e]; exact w))
  have hya : y ≠ a := fun e => ham.elim (fun w => by omega) (fun w => yo.2.2.1 (by rw [e]; exact w))
  have hyu : y ≠ u := fun e => hum.elim (fun w => by omega) (fun w => yo.2.2.2 (by rw [e]; exact w))
  have hzr : z ≠ r := fun e => hrm.elim (fun w => by omega) (fun w => n3 r w z (by simp) e.symm)
  have hza : z ≠ a := fun e => ham.elim (fun w => by omega) (fun w => n4 (by rw [e]; simp [w]))
  have hzu : z ≠ u := fun e => hum.elim (fun w => by omega) (fun w => n4 (by rw [e]; simp [w]))
  have hra : r ≠ -1 → r ≠ a := fun q e => ham.elim (fun w => q (e.trans w)) (fun w => n3 r (hrm.resolve_left q) a (by simp [w]) e)
  have hru : r ≠ -1 → r ≠ u := fun q e => hum.elim (fun w => q (e.trans w)) (fun w => n3 r (hrm.resolve_left q) u (by simp [w]) e)
  have hau : a ≠ -1 → a ≠ u := fun q e => hum.elim (fun w => q (e.trans w)) (fun w => n6 a (ham.resolve_left q) u w e)
  have har : a ≠ -1 → a ≠ r := fun q e => hrm.elim (fun w => q (e.trans w)) (fun w => n3 r w a (by simp [ham.resolve_left q]) e.symm)
  have hua : u ≠ -1 → u ≠ a := fun q e => hau (fun w => q (e.trans w)) e.symm
  have hur : u ≠ -1 → u ≠ r := fun q e => hru (fun w => q (e.trans w)) e.symm
  have ez : t.up z = u := by unfold T.up; rw [h2]; rfl
  have l2 : r2.ns.length = t.ns.length := hang_len _ _ _ _
  have l3 : r3.ns.length = t.ns.length := (hang_len _ _ _ _).trans l2
  have l4 : r4.ns.length = t.ns.length := (hang_len _ _ _ _).trans l3
  have e2 : r2 = t.hang u sz y := by show t.hang (t.up z) (t.side z) y = _; rw [ez, hsz]
  have nd2 : ∀ {j : Int}, 0 ≤ j → r2.nd j = if j = y then (if j = u then (t.nd j).setKid sz y else t.nd j).setUp u else (if j = u then (t.nd j).setKid sz y else t.nd j) := fun {j} hj => by
    have := nd_hang (t := t) hu (.inr hy) sz hj
    rw [← e2] at this
    exact this
  have z2 : r2.nd z = t.nd z := by rw [nd2 z0, if_neg (fun e => yo.2.1 e.symm), if_neg hzu]
  have k2 : r2.kid z false = a := by unfold T.kid; rw [z2, h2]; rfl
  have e3 : r3 = r2.hang y false a := by show r2.hang y false (r2.kid z false) = _; rw [k2]
  have nd3 : ∀ {j : Int}, 0 ≤ j → r3.nd j = if j = a then (if j = y then (r2.nd j).setKid false a else r2.nd j).setUp y else (if j = y then (r2.nd j).setKid false a else r2.nd j) := fun {j} hj => by
    have := nd_hang (t := r2) (.inr ((has_len l2).2 hy)) ((ok_len l2).2 hao) false hj
    rw [← e3] at this
    exact this
  have z3 : r3.nd z = t.nd z := by rw [nd3 z0, if_neg hza, if_neg (fun e => yo.2.1 e.symm), z2]
  have k3 : r3.kid z true = r := by unfold T.kid; rw [z3, h2]; rfl
  have e4 : r4 = r3.hang y true r := by show r3.hang y true (r3.kid z true) = _; rw [k3]
  have nd4 : ∀ {j : Int}, 0 ≤ j → r4.nd j = if j = r then (if j = y then (r3.nd j).setKid true r else r3.nd j).setUp y else (if j = y then (r3.nd j).setKid true r else r3.nd j) := fun {j} hj => by
    have := nd_hang (t := r3) (.inr ((has_len l3).2 hy)) ((ok_len l3).2 hro) true hj
    rw [← e4] at this
    exact this
  have z4 : r4.nd z = t.nd z := by rw [nd4 z0, if_neg hzr, if_neg (fun e => yo.2.1 e.symm), z3]
  have c4 : (r4.nd z).red = c := by rw [z4, h2]; rfl
  refine ⟨by rw [ez]; exact hu, by rw [k2]; exact (ok_len l2).2 hao, by rw [k3]; exact (ok_len l3).2 hro, ?_⟩
  rw [c4]
  have l5 : (r4.paint y c).ns.length = t.ns.length := (paint_len _ _ _).trans l4
  have nd5 : ∀ {j : Int}, 0 ≤ j → (r4.paint y c).nd j = _ := fun hj => nd_put (t := r4) ((has_len l4).2 hy) ((r4.nd y).setRed c) hj
  have other : ∀ j, 0 ≤ j → j ≠ y → j ≠ r → j ≠ a → j ≠ u → (r4.paint y c).nd j = t.nd j := fun j hj q1 q2 q3 q4 => by
    rw [nd5 hj, if_neg q1, nd4 hj, if_neg q2, if_neg q1, nd3 hj, if_neg q3, if_neg q1, nd2 hj, if_neg q1, if_neg q4]
  have ey : (r4.paint y c).nd y = nodeOf true c (t.nd y).v r a u := by
    rw [nd5 y0, if_pos rfl, nd4 y0, if_neg hyr, if_pos rfl, nd3 y0, if_neg hya, if_pos rfl, nd2 y0, if_pos rfl, if_neg hyu]
    unfold N.setRed N.setKid N.setUp nodeOf
    simp [hi]
  have er : r ≠ -1 → (r4.paint y c).nd r = (t.nd r).setUp y := fun q => by
    have r0 := (hro.resolve_left q).1
    rw [nd5 r0, if_neg (fun e => hyr e.symm), nd4 r0, if_pos rfl, if_neg (fun e => hyr e.symm), nd3 r0, if_neg (hra q), if_neg (fun e => hyr e.symm), nd2 r0, if_neg (fun e => hyr e.symm), if_neg (hru q)]
  have ea : a ≠ -1 → (r4.paint y c).nd a = (t.nd a).setUp y := fun q => by
    have a0 := (hao.resolve_left q).1
    rw [nd5 a0, if_neg (fun e => hya e.symm), nd4 a0, if_neg (har q), if_neg (fun e => hya e.symm), nd3 a0, if_pos rfl, if_neg (fun e => hya e.symm), nd2 a0, if_neg (fun e => hya e.symm), if_neg (hau q)]
  have eu : u ≠ -1 → (r4.paint y c).nd u = (t.nd u).setKid sz y := fun q => by
    have u0 := (hu.resolve_left q).1
    rw [nd5 u0, if_neg (fun e => hyu e.symm), nd4 u0, if_neg (hur q), if_neg (fun e => hyu e.symm), nd3 u0, if_neg (hua q), if_neg (fun e => hyu e.symm), nd2 u0, if_neg (fun e => hyu e.symm), if_pos rfl]
  have eroot : (r4.paint y c).root = if u = -1 then y else t.root := by
    show r4.root = _
    rw [e4, root_hang, if_neg (by omega), e3, root_hang, if_neg (by omega), e2, root_hang]
  have ctx0 := h.ctx
  have hzs : ∀ f gs, fs = f :: gs → sz = f.s := fun f gs e => by
    subst e
    have zz : t.side z = f.s := by
      have hfi := ctx0.1
      have hfz : f.i = u := hu0
      unfold T.side
      rw [ez, ← hfz, decide_eq_true (has_ne hfi), Bool.true_and]
      have hk : t.kid f.i true = if f.s then z else f.o.rid := by unfold T.kid N.kid; rw [ctx0.2.1]; rfl
      rw [hk]
      cases hs : f.s
      · simp only [Bool.false_eq_true, if_false, decide_eq_false_iff_not]
        intro e
        rcases rid_mem f.o with w | w
        · omega
        · exact n4 (by rw [← e]; simp [idsC, w])
      · simp
    exact hsz.symm.trans zz
  generalize r4.paint y c = t' at l5 other ey er ea eu eroot
  have hz' : t'.nd z = t.nd z := other z z0 (fun e => yo.2.1 e.symm) hzr hza hzu
  refine ⟨by rw [l5]; exact h.len, (Sub_bn ..).2 ⟨(has_len l5).2 hy, by rw [ey, hr0, ha0, hu0], ?_, ?_⟩, ?_, ?_, (has_len l5).2 h1, ?_, fun j hj m0 m1 m2 => ?_⟩
  · refine hR.congrUp l5 nR (fun j hj hne => ?_) (fun hne => by rw [hr0] at hne ⊢; exact er hne)
    rw [hr0] at hne
    have j0 := (hR.has j hj).1.1
    exact other j j0 (fun e => yo.1 (by rw [← e]; exact hj)) hne (fun e => ham.elim (fun w => by omega) (fun w => n3 j hj a (by simp [w]) e)) (fun e => hum.elim (fun w => by omega) (fun w => n3 j hj u (by simp [w]) e))
  · refine hA.congrUp l5 nA (fun j hj hne => ?_) (fun hne => by rw [ha0] at hne ⊢; exact ea hne)
    rw [ha0] at hne
    have j0 := (hA.has j hj).1.1
    exact other j j0 (fun e => yo.2.2.1 (by rw [← e]; exact hj)) (fun e => hrm.elim (fun w => by omega) (fun w => n3 r w j (by simp [hj]) e.symm)) hne (fun e => hum.elim (fun w => by omega) (fun w => n6 j hj u w e))
  · refine SubC.put l5 nC (fun j hj hne => ?_) (by rw [hu0]; exact eroot) (fun f gs e => ?_) h.ctx
    · rw [hu0] at hne
      have j0 := (h.ctx.has j hj).1
      exact other j j0 (fun e => yo.2.2.2 (by rw [← e]; exact hj)) (fun e => hrm.elim (fun w => by omega) (fun w => n3 r w j (by simp [hj]) e.symm)) (fun e => ham.elim (fun w => by omega) (fun w => n6 a w j hj e.symm)) hne
    · have hs := hzs f gs e
      subst e
      have hfz : f.i = u := hu0
      rw [hfz]
      have q := eu (by rw [← hfz]; exact has_ne h.ctx.1)
      rw [hs] at q
      exact q
  · refine (((ids_bn true y c (t.nd y).v R A).append_right (idsC fs)).nodup_iff).2 ?_
    rw [List.append_assoc, List.cons_append, List.nodup_append]
    refine ⟨nR, List.nodup_cons.2 ⟨fun w => (List.mem_append.1 w).elim yo.2.2.1 yo.2.2.2, List.nodup_append.2 ⟨nA, nC, n6⟩⟩, fun p hp q hq e => ?_⟩
    rcases List.mem_cons.1 hq with rfl | hq
    · exact yo.1 (by rw [← e]; exact hp)
    · exact n3 p hp q (List.mem_cons_of_mem _ hq) e
  · refine ⟨fun w => ?_, fun w => n4 (List.mem_append.2 (.inr w))⟩
    have := (ids_bn true y c (t.nd y).v R A).mem_iff.1 w
    simp only [List.mem_append, List.mem_cons] at this
    rcases this with w | w | w
    · exact n3 z w z (by simp) rfl
    · exact yo.2.1 w.symm
    · exact n4 (List.mem_append.2 (.inl w))
  · have hj' := (has_len l5).1 hj
    have hnm : j ∉ R.ids ∧ j ≠ y ∧ j ∉ A.ids := by
      rw [(ids_bn true y c (t.nd y).v R A).mem_iff] at m1
      simp only [List.mem_append, List.mem_cons, not_or] at m1
      exact m1
    have j0 := hj'.1
    rw [other j j0 hnm.2.1 (fun e => hrm.elim (fun w => by omega) (fun w => hnm.1 (by rw [e]; exact w))) (fun e => ham.elim (fun w => by omega) (fun w => hnm.2.2 (by rw [e]; exact w))) (fun e => hum.elim (fun w => by omega) (fun w => m2 (by rw [e]; exact w)))]
    refine h.rest j hj' hnm.2.1 (fun w => ?_) m2
    have := (ids_bn true z c v R A).mem_iff.1 w
    simp only [List.mem_append, List.mem_cons] at this
    rcases this with w | w | w
    · exact hnm.1 w
    · exact m0 w
    · exact hnm.2.2 w
end Tr
end Go.Proofs.Ytgjacmkedgbneaa

namespace Go.Proofs.Ytgjacmkedgbneaa
namespace Tr
open Wd Tn Ky

/-- One step down, with the colors. -/
theorem step_down {fs : List F} {s : Bool} {i : Int} {c : Bool} {v : Int} {x o : B} {n : Nat} (hb : Rb (bn s i c v x o) n) (hc : RbC fs n) (hcr : c = true → topRed fs = false ∧ fs ≠ []) :
    ∃ n', Rb x n' ∧ RbC (⟨s, i, c, v, o⟩ :: fs) n' ∧ (x.isRed = true → topRed (⟨s, i, c, v, o⟩ :: fs) = false ∧ (⟨s, i, c, v, o⟩ :: fs) ≠ []) := by
  cases c with
  | true =>
    obtain ⟨q1, q2, q3, q4⟩ := (Rb_red ..).1 hb
    exact ⟨n, q3, ⟨q4, fun _ => ⟨q2, (hcr rfl).1, (hcr rfl).2⟩, hc⟩, fun e => by rw [q1] at e; cases e⟩
  | false =>
    obtain ⟨n', rfl, q3, q4⟩ := (Rb_black ..).1 hb
    exact ⟨n', q3, ⟨q4, (fun e => by cases e), hc⟩, fun _ => ⟨rfl, by simp⟩⟩
/-- A node is found. -/
theorem find_all {t : T} {z : Int} : (b : B) → ∀ {fs : List F} {n : Nat}, Z t b fs → Rb b n → RbC fs n → (b.isRed = true → topRed fs = false ∧ fs ≠ []) → z ∈ b.ids →
    ∃ (fs' : List F) (c : Bool) (v : Int) (kk : Bool → B) (n' : Nat), Z t (.N z c v kk) fs' ∧ plug (.N z c v kk) fs' = plug b fs ∧ Rb (.N z c v kk) n' ∧ RbC fs' n' ∧ (c = true → topRed fs' = false ∧ fs' ≠ [])
  | .L, _, _, _, _, _, _, hz => by cases hz
  | .N i c v kk, fs, n, h, hb, hc, hcr, hz => by
    have go : ∀ s : Bool, z ∈ (kk s).ids → ∃ (fs' : List F) (c' : Bool) (v' : Int) (kk' : Bool → B) (n' : Nat), Z t (.N z c' v' kk') fs' ∧ plug (.N z c' v' kk') fs' = plug (.N i c v kk) fs ∧ Rb (.N z c' v' kk') n' ∧ RbC fs' n' ∧ (c' = true → topRed fs' = false ∧ fs' ≠ []) := fun s hs => by
      have he := bn_eta s i c v kk
      have hz' : Z t (kk s) (⟨s, i, c, v, kk (!s)⟩ :: fs) := by
        rw [Z_step]
        show Z t (bn s i c v (kk s) (kk (!s))) fs
        rw [← he]; exact h
      rw [he] at hb
      obtain ⟨n', r1, r2, r3⟩ := step_down hb hc hcr
      obtain ⟨fs', c', v', kk', m, a1, a2, a3⟩ := find_all (kk s) hz' r1 r2 r3 hs
      refine ⟨fs', c', v', kk', m, a1, ?_, a3⟩
      rw [a2]
      show plug (bn s i c v (kk s) (kk (!s))) fs = _
      rw [← he]
    simp only [B.ids, List.mem_append, List.mem_cons] at hz
    rcases hz with hz | rfl | hz
    · exact go false hz
    · exact ⟨fs, c, v, kk, n, h, rfl, hb, hc, hcr⟩
    · exact go true hz
/-- The one that is come to by Left. -/
theorem left_all {t : T} : (b : B) → b ≠ .L → ∀ {fs : List F} {n : Nat}, Z t b fs → Rb b n → RbC fs n → (b.isRed = true → topRed fs = false ∧ fs ≠ []) →
    ∃ (k : Nat) (y : Int) (cy : Bool) (vy : Int) (x : B) (gs : List F) (n' : Nat), Leftmost t k b.rid y ∧ Z t (bn true y cy vy x .L) (gs ++ fs) ∧ plug (bn true y cy vy x .L) gs = b ∧ (∀ g ∈ gs, g.s = false) ∧ Rb (bn true y cy vy x .L) n' ∧ RbC (gs ++ fs) n' ∧ (cy = true → topRed (gs ++ fs) = false ∧ gs ++ fs ≠ [])
  | .L, hne, _, _, _, _, _, _ => absurd rfl hne
  | .N i c v kk, _, fs, n, h, hb, hc, hcr => by
    have hi : t.has i := h.sub.1
    have hkid : t.kid i false = (kk false).rid := by unfold T.kid N.kid; rw [h.sub.2.1]; rfl
    by_cases hl : kk false = .L
    · have e : B.N i c v kk = bn true i c v (kk true) .L := by rw [bn_eta true i c v kk]; simp [hl]
      refine ⟨0, i, c, v, kk true, [], n, .stop 0 i hi (by rw [hkid, hl]; rfl), by rw [← e]; exact h, e.symm, by simp, by rw [← e]; exact hb, hc, hcr⟩
    · have he := bn_eta false i c v kk
      have hz' : Z t (kk false) (⟨false, i, c, v, kk (!false)⟩ :: fs) := by
        rw [Z_step]
        show Z t (bn false i c v (kk false) (kk (!false))) fs
        rw [← he]; exact h
      rw [he] at hb
      obtain ⟨n', r1, r2, r3⟩ := step_down hb hc hcr
      obtain ⟨k, y, cy, vy, x, gs, m, a1, a2, a3, a4, a5, a6, a7⟩ := left_all (kk false) hl hz' r1 r2 r3
      have hne : t.kid i false ≠ -1 := by
        rw [hkid]
        cases hk : kk false with
        | L => exact absurd hk hl
        | N i' c' v' k' => have := h.sub.2.2.1; rw [hk] at this; exact has_ne this.1
      have ea : gs ++ [⟨false, i, c, v, kk (!false)⟩] ++ fs = gs ++ ⟨false, i, c, v, kk (!false)⟩ :: fs := by simp
      refine ⟨k + 1, y, cy, vy, x, gs ++ [⟨false, i, c, v, kk (!false)⟩], m, .step k i y hi hne (by rw [hkid]; exact a1), by rw [ea]; exact a2, ?_, fun g hg => ?_, a5, by rw [ea]; exact a6, by rw [ea]; exact a7⟩
      · rw [plug_append, a3]
        show bn false i c v (kk false) (kk (!false)) = _
        rw [← he]
      · rcases List.mem_append.1 hg with hg | hg
        · exact a4 g hg
        · simp at hg; rw [hg]
theorem keysL_left {gs : List F} (h : ∀ g ∈ gs, g.s = false) : keysL gs = [] := by
  induction gs with
  | nil => rfl
  | cons g gs ih => simp [keysL, h g (by simp), ih (fun g' hg => h g' (by simp [hg]))]
/-- Another node of the same color in a frame. -/
theorem RbC_swap {gs fs : List F} {s c : Bool} {i i' v v' : Int} {o : B} : ∀ {n : Nat}, RbC (gs ++ ⟨s, i, c, v, o⟩ :: fs) n → RbC (gs ++ ⟨s, i', c, v', o⟩ :: fs) n := by
  induction gs with
  | nil => intro n h; exact h
  | cons g gs ih =>
    intro n h
    obtain ⟨h1, h2, h3⟩ := h
    refine ⟨h1, fun e => ?_, ih h3⟩
    obtain ⟨q1, q2, -⟩ := h2 e
    refine ⟨q1, ?_, by simp⟩
    cases gs with
    | nil => exact q2
    | cons g' gs' => exact q2
theorem mem_idsC (gs : List F) (f : F) (fs : List F) : f.i ∈ idsC (gs ++ f :: fs) := by
  induction gs with
  | nil => simp [idsC]
  | cons g gs ih => simp only [List.cons_append, idsC, List.mem_cons, List.mem_append]; exact .inr (.inr ih)
/-- A right tree, and one key less. -/
theorem del_all {m : Int} {t : T} {b : B} {z : Int} (hw : Whole t b) (hr : RightB m b) (hz : t.has z) (hi : (t.nd z).inn = true) :
    ∃ (t' : T) (b' : B), Remove t z t' ∧ Whole t' b' ∧ RightB m b' ∧ ∃ l v r, b.keys = l ++ (v, z) :: r ∧ b'.keys = l ++ r := by
  obtain ⟨r1, r2, r3⟩ := hr
  obtain ⟨N0, hN0⟩ := (plain_iff b).1.1 r3
  have hmem : z ∈ b.ids := by
    refine Classical.byContradiction fun hn => ?_
    have := hw.rest z hz hn
    rw [this] at hi
    cases hi
  obtain ⟨fs, c, v, kk, n, h, hpl, hb, hc, hcr⟩ := find_all b ((Z_whole t b).2 hw) hN0 trivial (fun e => by rw [r1] at e; cases e) hmem
  have hup := place_up h (has_ne hz)
  have hup1 : t.up z = upOf fs := hup.1
  have hup2 : t.side z = sd fs := hup.2
  have hred : (t.nd z).red = c := by rw [h.sub.2.1]
  have hkl : t.kid z false = (kk false).rid := by unfold T.kid N.kid; rw [h.sub.2.1]; rfl
  have hkr : t.kid z true = (kk true).rid := by unfold T.kid N.kid; rw [h.sub.2.1]; rfl
  have huo : t.ok (t.up z) := by rw [hup1]; exact h.ctx.ok
  have ne_of : ∀ s : Bool, kk s ≠ .L → (kk s).rid ≠ -1 := fun s hs => by
    have hsub : Sub t (kk s) z := by cases s; exact h.sub.2.2.1; exact h.sub.2.2.2
    cases hk : kk s with
    | L => exact absurd hk hs
    | N i' c' v' k' => rw [hk] at hsub; exact has_ne hsub.1
  -- what follows of the tree that comes out
  have finish : ∀ (t' : T) (b' : B) (l r : List K), Remove t z t' → Whole t' b' → b'.isRed = false → (∃ mm, Rb b' mm) → b.keys = l ++ (v, z) :: r → b'.keys = l ++ r →
      ∃ (t' : T) (b' : B), Remove t z t' ∧ Whole t' b' ∧ RightB m b' ∧ ∃ l v r, b.keys = l ++ (v, z) :: r ∧ b'.keys = l ++ r := fun t' b' l r q1 q2 q3 q4 q5 q6 => by
    refine ⟨t', b', q1, q2, ⟨q3, ?_, (plain_iff b').1.2 q4⟩, l, v, r, q5, q6⟩
    rw [q6]
    rw [q5] at r2
    unfold okK at *
    exact r2.sublist (List.Sublist.append_left (List.sublist_cons_self _ _) _)
  have hkeys : b.keys = keysL fs ++ ((kk false).keys ++ (v, z) :: (kk true).keys) ++ keysR fs := by
    have e : plug (.N z c v kk) fs = b := hpl
    rw [← e, keys_all]
    rfl
  by_cases hlr : kk false = .L ∨ kk true = .L
  · -- a child lacks
    obtain ⟨s, hs, hout⟩ : ∃ s : Bool, kk (!s) = .L ∧ Out t z (t.hang (t.up z) (t.side z) (t.kid z s)) (t.nd z).red (t.up z) (t.side z) := by
      by_cases hl : kk false = .L
      · exact ⟨true, hl, .left (by rw [hkl, hl]; rfl) (by rw [hkr]; exact h.sub.2.2.2.ok)⟩
      · have hr' := hlr.resolve_left hl
        exact ⟨false, hr', .right (by rw [hkl]; exact ne_of false hl) (by rw [hkl]; exact h.sub.2.2.1.ok) (by rw [hkr, hr']; rfl)⟩
    have he : B.N z c v kk = bn s z c v (kk s) .L := by rw [bn_eta s z c v kk, hs]
    have hks : t.kid z s = (kk s).rid := by cases s; exact hkl; exact hkr
    rw [hks, hup1, hup2] at hout
    rw [he] at h hb
    obtain ⟨ze, -⟩ := h.splice
    have z2 := ze.drop
    have hkeys2 : ∃ l r, b.keys = l ++ (v, z) :: r ∧ (plug (kk s) fs).keys = l ++ r := by
      rw [hkeys, keys_all]
      cases s with
      | true => exact ⟨keysL fs, (kk true).keys ++ keysR fs, by rw [show kk false = .L from hs]; simp [B.keys], by simp⟩
      | false => exact ⟨keysL fs ++ (kk false).keys, keysR fs, by rw [show kk true = .L from hs]; simp [B.keys], by simp⟩
    obtain ⟨l, r, k1, k2⟩ := hkeys2
    cases c with
    | true =>
      obtain ⟨q1, q2, q3, q4⟩ := (Rb_red ..).1 hb
      obtain ⟨p1, p2⟩ := Rb_plug q3 hc (fun e => by rw [q1] at e; cases e)
      exact finish _ _ l r ⟨hz, huo, _, _, _, _, hout, .inl ⟨hred, rfl⟩⟩ ((Z_plug ..).1 z2) p1 p2 k1 k2
    | false =>
      obtain ⟨n', rfl, q3, q4⟩ := (Rb_black ..).1 hb
      obtain ⟨k, t', b', m1, m2, m3, m4, m5⟩ := fill_all fs z2 (RbF_of q3) hc
      exact finish _ _ l r ⟨hz, huo, _, _, _, _, hout, .inr ⟨hred, k, m1⟩⟩ m2 m3 m4 k1 (m5.trans k2)
  · -- both are there
    have hl : kk false ≠ .L := fun e => hlr (.inl e)
    have hr' : kk true ≠ .L := fun e => hlr (.inr e)
    have he := bn_eta true z c v kk
    have hz1 : Z t (kk true) (⟨true, z, c, v, kk false⟩ :: fs) := by
      rw [Z_step]
      show Z t (bn true z c v (kk true) (kk false)) fs
      have : B.N z c v kk = bn true z c v (kk true) (kk false) := he
      rw [← this]; exact h
    rw [he] at hb
    obtain ⟨n', s1, s2, s3⟩ := step_down hb hc hcr
    obtain ⟨k, y, cy, vy, x, gs, n2, a1, a2, a3, a4, a5, a6, a7⟩ := left_all (kk true) hr' hz1 s1 s2 s3
    have hsy := (Sub_bn ..).1 a2.sub
    have hyh : t.has y := hsy.1
    have hyp := place_up a2 (show (bn true y cy vy x .L).rid ≠ -1 from has_ne hyh)
    have hyu : t.up y = upOf (gs ++ ⟨true, z, c, v, kk false⟩ :: fs) := hyp.1
    have hys : t.side y = sd (gs ++ ⟨true, z, c, v, kk false⟩ :: fs) := hyp.2
    have hyk : t.kid y true = x.rid := by unfold T.kid; rw [hsy.2.1]; rfl
    have hyred : (t.nd y).red = cy := by rw [hsy.2.1]; rfl
    have hyv : (t.nd y).v = vy := by rw [hsy.2.1]; rfl
    have hyi : (t.nd y).inn = true := by rw [hsy.2.1]; rfl
    obtain ⟨ze, hnd⟩ := a2.splice
    have er1 : rep1 t y = t.hang (upOf (gs ++ ⟨true, z, c, v, kk false⟩ :: fs)) (sd (gs ++ ⟨true, z, c, v, kk false⟩ :: fs)) x.rid := by unfold rep1; rw [hyu, hys, hyk]
    rw [← er1] at ze hnd
    have ze1 : ZE (rep1 t y) (bn true z c v (plug x gs) (kk false)) fs y := by
      have := (ZE_plug (rep1 t y) gs y x _).1 ze
      rw [ZE_step] at this
      exact this
    have hrep := ze1.repl (by rw [hnd]; exact hyi)
    simp only at hrep
    obtain ⟨o1, o2, o3, ze2⟩ := hrep
    have ho : RepOk t z y := ⟨hz, hyh, by rw [hyu]; exact a2.ctx.ok, by rw [hyk]; exact hsy.2.2.1.ok, o1, o2, o3⟩
    rw [hnd, hyv] at ze2
    have z6 : Z ((rep5 t z y).put z nE) x (gs ++ ⟨true, y, c, vy, kk false⟩ :: fs) := by
      rw [Z_plug2, Z_step]
      exact ze2.drop
    have hhole : (if t.up y = z then y else t.up y) = upOf (gs ++ ⟨true, y, c, vy, kk false⟩ :: fs) ∧ t.side y = sd (gs ++ ⟨true, y, c, vy, kk false⟩ :: fs) := by
      rw [hyu, hys]
      cases gs with
      | nil => exact ⟨if_pos rfl, rfl⟩
      | cons g gs =>
        refine ⟨if_neg (fun e => ?_), rfl⟩
        have hd := a2.nod
        have h1 : (g.i :: (g.o.ids ++ idsC (gs ++ ⟨true, z, c, v, kk false⟩ :: fs))).Nodup := (List.nodup_append.1 hd).2.1
        have hg : g.i = z := e
        refine (List.nodup_cons.1 h1).1 ?_
        rw [hg]
        refine List.mem_append.2 (.inr ?_)
        exact mem_idsC gs _ fs
    have hout : Out t z (rep5 t z y) (t.nd y).red (if t.up y = z then y else t.up y) (t.side y) := .both k y (by rw [hkl]; exact ne_of false hl) (by rw [hkr]; exact ne_of true hr') (by rw [hkr]; exact a1) ho
    rw [hhole.1, hhole.2] at hout
    have hkx : ∀ w : B, (plug w gs).keys = w.keys ++ keysR gs := fun w => by rw [keys_all, keysL_left a4]; simp
    have k1 : b.keys = (keysL fs ++ (kk false).keys) ++ (v, z) :: ((vy, y) :: x.keys ++ keysR gs ++ keysR fs) := by
      rw [hkeys, ← a3, hkx, keys_bn]
      simp [B.keys]
    have k2 : (plug x (gs ++ ⟨true, y, c, vy, kk false⟩ :: fs)).keys = (keysL fs ++ (kk false).keys) ++ ((vy, y) :: x.keys ++ keysR gs ++ keysR fs) := by
      rw [plug_append]
      show (plug (bn true y c vy (plug x gs) (kk false)) fs).keys = _
      rw [keys_all, keys_bn, hkx]
      simp
    cases cy with
    | true =>
      obtain ⟨q1, q2, q3, q4⟩ := (Rb_red ..).1 a5
      obtain ⟨p1, p2⟩ := Rb_plug q3 (RbC_swap (i' := y) (v' := vy) a6) (fun e => by rw [q1] at e; cases e)
      exact finish _ _ _ _ ⟨hz, huo, _, _, _, _, hout, .inl ⟨hyred, rfl⟩⟩ ((Z_plug ..).1 z6) p1 p2 k1 k2
    | false =>
      obtain ⟨n3, rfl, q3, q4⟩ := (Rb_black ..).1 a5
      obtain ⟨k', t', b', m1, m2, m3, m4, m5⟩ := fill_all _ z6 (RbF_of q3) (RbC_swap (i' := y) (v' := vy) a6)
      exact finish _ _ _ _ ⟨hz, huo, _, _, _, _, hout, .inr ⟨hyred, k', m1⟩⟩ m2 m3 m4 k1 (m5.trans k2)
end Tr
end Go.Proofs.Ytgjacmkedgbneaa

namespace Go.Proofs.Ytgjacmkedgbneaa
open Go.RowKit Go.Sort Ky Wd Tn Tr

/-- What is put in, or taken out, by a number. -/
def opB (n : Int) : Bool := decide (n % 4 ≠ 3)
def opK (m n many : Int) : K := (IntKind.u64.wrap (m + n / 256), n / 4 % many)

set_option maxHeartbeats 1000000 in
theorem Op_at (m n : Int) (h0 : 0 ≤ n) (h1 : n < 65536) (many : Int) (hm0 : 0 < many) (hm1 : many ≤ 64) (W : World) :
    Calls Try.prog 28 #[.int .u64 m, .int .u16 n, .int .i64 many] W fun e w' => e = .returned (.tuple #[.bool (opB n), .agg #[.int .u64 (opK m n many).1, .int .i64 (opK m n many).2]]) ∧ Below W.heap.size W w' := by
  have HKB := Lib.hid (Kb.new W (0, 0))
  have HB := Lib.hid ((Below.refl W.heap.size W).alloc (Nat.le_refl _) (.cells #[.int .u64 0, .int .i64 0] 27))
  obtain ⟨g0, g1, g2, g3, -⟩ := HKB.out.all
  go_enter Try.func28, Try.ntmps28
  go_upto_region 1 with fail
  generalize W.alloc (.cells #[.int .u64 0, .int .i64 0] 27) = w1 at g0 g1 g2 g3 HKB HB ⊢
  have hne : many ≠ 0 := by omega
  have hne2 : (many == 0) = false := by rw [beq_eq_false_iff_ne]; exact hne
  have HE : Hid (IntKind.u64.wrap (m + IntKind.u64.wrap (IntKind.u16.wrap (n.tdiv 256))) = (opK m n many).1) := Lib.hid (by
    have e1 : n.tdiv 256 = n / 256 := Int.tdiv_eq_ediv_of_nonneg h0
    have e2 : IntKind.u16.wrap (n / 256) = n / 256 := by rw [IntKind.wrap_u16]; omega
    have e3 : IntKind.u64.wrap (n / 256) = n / 256 := by rw [IntKind.wrap_u64]; omega
    rw [e1, e2, e3]
    rfl)
  have HV : Hid (n / 4 % many = (opK m n many).2) := Lib.hid rfl
  have HO : Hid (opB n = (n % 4 != 3)) := Lib.hid (by unfold opB; by_cases h : n % 4 = 3 <;> simp [h])
  go_region
  have HKS := Lib.hid (HKB.out.store (IntKind.u64.wrap (m + IntKind.u64.wrap (IntKind.u16.wrap (n.tdiv 256))), n / 4 % many)).all
  have HBS := Lib.hid ((HB.out.setCell (p := ⟨W.heap.size, 0, none⟩) (Nat.le_refl _) (.int .u64 (IntKind.u64.wrap (m + IntKind.u64.wrap (IntKind.u16.wrap (n.tdiv 256)))))).setCell (p := ⟨W.heap.size, 1, none⟩) (Nat.le_refl _) (.int .i64 (n / 4 % many))).drew
  have HEQ : Hid (Ending.returned (.tuple #[.bool (n % 4 != 3), .agg #[.int .u64 (IntKind.u64.wrap (m + IntKind.u64.wrap (IntKind.u16.wrap (n.tdiv 256)))), .int .i64 (n / 4 % many)]]) = Ending.returned (.tuple #[.bool (opB n), .agg #[.int .u64 (opK m n many).1, .int .i64 (opK m n many).2]])) := Lib.hid (by rw [HO.out, HE.out, HV.out])
  clear HE HO HV
  generalize IntKind.u64.wrap (m + IntKind.u64.wrap (IntKind.u16.wrap (n.tdiv 256))) = x at *
  go_wp2_with fail
  obtain ⟨s0, s1, -⟩ := HKS.out
  exact bodyPost_ret (v := .tuple #[.bool (n % 4 != 3), .agg #[.int .u64 x, .int .i64 (n / 4 % many)]]) (by simp [results, Try.results28, go_sem, s0, s1]) rfl ⟨HEQ.out, HBS.out⟩

/-! ### How flat -/
theorem Rb_high : (b : B) → ∀ n, Rb b n → b.high ≤ 2 * n + (if b.isRed then 1 else 0)
  | .L, n, h => by simp [B.high]
  | .N i true v k, n, h => by
    obtain ⟨h1, h2, h3, h4⟩ := h
    have e1 := Rb_high (k false) n h3
    have e2 := Rb_high (k true) n h4
    rw [h1] at e1
    rw [h2] at e2
    simp only [B.high, B.isRed, if_true, Bool.false_eq_true, if_false] at *
    omega
  | .N i false v k, n, h => by
    obtain ⟨m, rfl, h3, h4⟩ := h
    have e1 := Rb_high (k false) m h3
    have e2 := Rb_high (k true) m h4
    have f1 : (k false).high ≤ 2 * m + 1 := by cases h : (k false).isRed <;> rw [h] at e1 <;> simp at e1 <;> omega
    have f2 : (k true).high ≤ 2 * m + 1 := by cases h : (k true).isRed <;> rw [h] at e2 <;> simp at e2 <;> omega
    simp only [B.high, B.isRed, Bool.false_eq_true, if_false]
    omega
theorem Rb_many : (b : B) → ∀ n, Rb b n → 2 ^ n ≤ b.keys.length + 1
  | .L, n, h => by rw [show n = 0 from h]; simp [B.keys]
  | .N i true v k, n, h => by
    have e1 := Rb_many (k false) n h.2.2.1
    simp only [B.keys, List.length_append, List.length_cons]
    omega
  | .N i false v k, n, h => by
    obtain ⟨m, rfl, h3, h4⟩ := h
    have e1 := Rb_many (k false) m h3
    have e2 := Rb_many (k true) m h4
    simp only [B.keys, List.length_append, List.length_cons]
    rw [Nat.pow_succ]
    omega
theorem flat {m : Int} {b : B} (h : RightB m b) : 2 ^ (b.high / 2) ≤ b.keys.length + 1 := by
  obtain ⟨r1, -, r3⟩ := h
  obtain ⟨n, hn⟩ := (plain_iff b).1.1 r3
  have e1 := Rb_high b n hn
  rw [r1] at e1
  have e2 := Rb_many b n hn
  exact Nat.le_trans (Nat.pow_le_pow_right (by omega) (by simp at e1; omega)) e2
end Go.Proofs.Ytgjacmkedgbneaa

namespace Go.Proofs.Ytgjacmkedgbneaa
open Go.RowKit Go.Sort Ky Wd Tn Tr

theorem insK_split {m : Int} {k : K} : {l r : List K} → (∀ x ∈ l, ltK m k x = false) → (∀ x ∈ r, ltK m k x = true) → Ky.insK m k (l ++ r) = l ++ k :: r
  | [], [], _, _ => rfl
  | [], x :: r, _, hr => by show (if ltK m k x = true then _ else _) = _; rw [if_pos (hr x (by simp))]; rfl
  | x :: l, r, hl, hr => by
    show (if ltK m k x = true then k :: x :: (l ++ r) else x :: Ky.insK m k (l ++ r)) = _
    rw [hl x (by simp), if_neg (by decide), insK_split (fun y hy => hl y (by simp [hy])) hr]
    rfl
theorem mem_ids {t : T} {b : B} (hw : Whole t b) {z : Int} (hz : t.has z) : (t.nd z).inn = true ↔ idxK z b.keys < b.keys.length := by
  rw [idxK_mem, ← ids_keys]
  constructor
  · intro hi
    refine Classical.byContradiction fun hn => ?_
    have := hw.rest z hz hn
    rw [this] at hi
    cases hi
  · intro h
    exact (hw.sub.has z h).2
/-- What Delete tells, beside Drop. -/
theorem del_any {m : Int} {t : T} {b : B} {z : Int} (hw : Whole t b) (hr : RightB m b) (hz : t.has z) :
    ∃ td ed, Del m z t td ed ∧ ((ed = 0 ∧ dropE m b.keys z = 0 ∧ ∃ bd, Whole td bd ∧ RightB m bd ∧ dropL m b.keys z = bd.keys) ∨ (ed = 8 ∧ dropE m b.keys z = 8)) := by
  cases hi : (t.nd z).inn with
  | false =>
    have hn : ¬ idxK z b.keys < b.keys.length := fun h => by have := (mem_ids hw hz).2 h; rw [hi] at this; cases this
    exact ⟨_, _, .idle ⟨b, hw, hr⟩ hz hi, .inr ⟨rfl, (drop_none hr.2.1 hn).1⟩⟩
  | true =>
    have hn := (mem_ids hw hz).1 hi
    obtain ⟨td, bd, h1, h2, h3, l, v, r, k1, k2⟩ := del_all hw hr hz hi
    obtain ⟨e1, e2⟩ := drop_has hr.2.1 hn
    refine ⟨td, 0, .done ⟨b, hw, hr⟩ hz hi td h1, .inl ⟨rfl, e1, bd, h2, h3, ?_⟩⟩
    have hix : idxK z b.keys = l.length := by
      refine idxK_at (by rw [k1]; simp) (by rw [k1]; simp [List.getD]) (fun j hj e => ?_)
      have hok := okK_at hr.2.1 (i := j) (j := l.length) hj (by rw [k1]; simp)
      refine hok.2 (e.trans ?_)
      rw [k1]
      simp [List.getD]
    rw [e2, hix, k1, k2]
    simp
/-- What Insert tells, beside Put. -/
theorem ins_any {m : Int} {t : T} {b : B} {k : K} (hw : Whole t b) (hr : RightB m b) (hkin : Kin k) (hU : ∀ x ∈ b.keys, Kin x) (hk : t.has k.2) :
    ∃ ti ei, Ins m k t ti ei ∧ ((ei = 0 ∧ putE m b.keys k = 0 ∧ ∃ bi, Whole ti bi ∧ RightB m bi ∧ putL m b.keys k = bi.keys) ∨ (ei = 1 ∧ putE m b.keys k = 1)) := by
  cases hi : (t.nd k.2).inn with
  | true => exact ⟨_, _, .arg ⟨b, hw, hr⟩ (.inr hi), .inr ⟨rfl, (put_has hr.2.1 ((mem_ids hw hk).1 hi)).1⟩⟩
  | false =>
    have hn : ¬ idxK k.2 b.keys < b.keys.length := fun h => by have := (mem_ids hw hk).2 h; rw [hi] at this; cases this
    obtain ⟨n, n2, u, s, ti, bi, h1, h2, h3, h4, l, r, k1, k2, k3, k4⟩ := ins_all hw hr hkin hU hk hi
    obtain ⟨e1, e2⟩ := put_new hr.2.1 hn
    refine ⟨ti, 0, .done ⟨b, hw, hr⟩ hk hi n n2 u s ti h1 h2, .inl ⟨rfl, e1, bi, h3, h4, ?_⟩⟩
    rw [e2, k1, k2]
    exact insK_split k3 k4
theorem fill_len {n : Nat} {t t' : T} {u : Int} {s : Bool} (h : Fill n t u s t') : t'.ns.length = t.ns.length := by
  have far : ∀ {t t' : T} {p : Int} {s : Bool}, SetFar t p s t' → t'.ns.length = t.ns.length := fun ⟨v, f, _, _, _, _, _, _, e⟩ => by rw [e, turn_len, paint_len, paint_len, paint_len]
  induction h with
  | root n t s h0 => split <;> simp [paint_len]
  | redp n t u y s hu ey hy ry => exact paint_len _ _ _
  | turn n t t' u v s hu hk rk ev hv rv ht r2 r1 rest ih => rw [ih, turn_len, paint_len, paint_len]
  | settle n t t' u v s hu hk rk ev hv rv ol or rr hs =>
    obtain ⟨_, _, _, _, _, _, _, h | ⟨_, c, _, _, _, h⟩⟩ := hs
    · exact far h.2
    · rw [far h, turn_len, paint_len, paint_len]
  | up n t t' u v s hu hk rk ev hv rv ol or rr hp rest ih => rw [ih, paint_len]
theorem remove_len {t t' : T} {z : Int} (h : Remove t z t') : t'.ns.length = t.ns.length := by
  obtain ⟨_, _, t1, g, u, s, ho, ⟨_, rfl⟩ | ⟨_, n, hf⟩⟩ := h
  · rw [put_len, ho.len]
  · rw [fill_len hf, put_len, ho.len]
theorem Del.len {m z : Int} {t t' : T} (h : Del m z t t' 0) : t'.ns.length = t.ns.length := by
  cases h with
  | done _ _ _ _ hr => exact remove_len hr
theorem Ins.len {m : Int} {k : K} {t t' : T} (h : Ins m k t t' 0) : t'.ns.length = t.ns.length := by
  cases h with
  | done _ _ _ n n2 u s _ hd hm => rw [hm.len, hang_len, put_len]
end Go.Proofs.Ytgjacmkedgbneaa

namespace Go.Proofs.Ytgjacmkedgbneaa
namespace Tr
open Wd Tn Ky

theorem T_ext {t t' : T} (hr : t.root = t'.root) (hl : t.ns.length = t'.ns.length) (h : ∀ j, t.has j → t.nd j = t'.nd j) : t = t' := by
  obtain ⟨r, ns⟩ := t
  obtain ⟨r', ns'⟩ := t'
  simp only at hr hl
  subst hr
  congr 1
  refine List.ext_getElem hl fun i h1 h2 => ?_
  have := h i ⟨by omega, by simp only; omega⟩
  simpa [T.nd, List.getD, h1, h2] using this
theorem setKid_setUp (n : N) (s : Bool) (y u : Int) : (n.setUp u).setKid s y = (n.setKid s y).setUp u := by cases s <;> rfl
theorem setKid_setKid (n : N) {s s' : Bool} (h : s ≠ s') (y y' : Int) : (n.setKid s y).setKid s' y' = (n.setKid s' y').setKid s y := by
  cases s <;> cases s' <;> first | rfl | exact absurd rfl h
/-- Two hangs at unlike places, of unlike nodes. -/
theorem hang_comm {t : T} {u u' y y' : Int} {s s' : Bool} (hu : t.ok u) (hu' : t.ok u') (hy : t.ok y) (hy' : t.ok y') (h1 : u ≠ u' ∨ (s ≠ s' ∧ u ≠ -1)) (h2 : y ≠ y') :
    (t.hang u s y).hang u' s' y' = (t.hang u' s' y').hang u s y := by
  refine T_ext ?_ (by simp only [hang_len]) fun j hj => ?_
  · rw [root_hang, root_hang, root_hang, root_hang]
    rcases h1 with h1 | h1
    · by_cases a : u = -1
      · rw [if_pos a, if_neg (fun b => h1 (a.trans b.symm)), if_pos a]
      · rw [if_neg a, if_neg a]
    · rw [if_neg h1.2, if_neg h1.2]
  · have hj0 := hj.1
    rw [nd_hang ((ok_len (hang_len ..)).2 hu') ((ok_len (hang_len ..)).2 hy') s' hj0, nd_hang hu hy s hj0, nd_hang ((ok_len (hang_len ..)).2 hu) ((ok_len (hang_len ..)).2 hy) s hj0, nd_hang hu' hy' s' hj0]
    by_cases a : j = y
    · have a' : j ≠ y' := fun e => h2 (a.symm.trans e)
      rw [if_pos a, if_neg a', if_pos a, if_neg a']
      by_cases b : j = u
      · rw [if_pos b, if_pos b]
        by_cases b' : j = u'
        · rw [if_pos b', if_pos b', setKid_setUp, setKid_setKid _ ((h1.resolve_left (fun h => h (b.symm.trans b'))).1)]
        · rw [if_neg b', if_neg b']
      · rw [if_neg b, if_neg b]
        by_cases b' : j = u'
        · rw [if_pos b', if_pos b', setKid_setUp]
        · rw [if_neg b', if_neg b']
    · rw [if_neg a, if_neg a]
      by_cases b : j = u
      · rw [if_pos b, if_pos b]
        by_cases a' : j = y'
        · rw [if_pos a', if_pos a']
          by_cases b' : j = u'
          · rw [if_pos b', if_pos b', setKid_setUp, setKid_setKid _ ((h1.resolve_left (fun h => h (b.symm.trans b'))).1)]
          · rw [if_neg b', if_neg b', setKid_setUp]
        · rw [if_neg a', if_neg a']
          by_cases b' : j = u'
          · rw [if_pos b', if_pos b', setKid_setKid _ ((h1.resolve_left (fun h => h (b.symm.trans b'))).1)]
          · rw [if_neg b', if_neg b']
      · rw [if_neg b, if_neg b]
theorem put_hang {t : T} {z u y : Int} {s : Bool} (n : N) (hz : t.has z) (hu : t.ok u) (hy : t.ok y) (h1 : z ≠ u) (h2 : z ≠ y) : (t.put z n).hang u s y = (t.hang u s y).put z n := by
  refine T_ext ?_ (by simp only [hang_len, put_len]) fun j hj => ?_
  · rw [root_hang, root_put, root_put, root_hang]
  · have hj0 := hj.1
    rw [nd_hang ((ok_len (put_len ..)).2 hu) ((ok_len (put_len ..)).2 hy) s hj0, nd_put ((has_len (hang_len ..)).2 hz) n hj0, nd_hang hu hy s hj0, nd_put hz n hj0]
    by_cases a : j = z
    · rw [if_pos a, if_neg (fun e => h2 (a.symm.trans e)), if_neg (fun e => h1 (a.symm.trans e)), if_pos a]
    · rw [if_neg a, if_neg a]
theorem put_paint {t : T} {z y : Int} {c : Bool} (n : N) (hz : t.has z) (hy : t.has y) (h : z ≠ y) : (t.put z n).paint y c = (t.paint y c).put z n := by
  unfold T.paint
  rw [nd_put_other hz.1 hy.1 h]
  unfold T.put
  simp only
  rw [List.set_comm _ _ (by have := hz.1; have := hy.1; omega)]
theorem put_put (t : T) (z : Int) (n n' : N) : (t.put z n).put z n' = t.put z n' := by
  unfold T.put
  simp
theorem put_same {t : T} {z : Int} (hz : t.has z) : t.put z (t.nd z) = t := by
  refine T_ext rfl (put_len ..) fun j hj => ?_
  rw [nd_put hz _ hj.1]
  split
  · rename_i e; rw [e]
  · rfl
theorem Leftmost.unique {t : T} {n : Nat} {x y : Int} (h : Leftmost t n x y) : ∀ {n' : Nat} {y' : Int}, Leftmost t n' x y' → y = y' := by
  induction h with
  | stop n y hy hl =>
    intro n' y' h'
    rcases h'.parts.2 with ⟨-, e⟩ | ⟨hne, -⟩
    · exact e.symm
    · exact absurd hl hne
  | step n y y1 hy hne rest ih =>
    intro n' y' h'
    rcases h'.parts.2 with ⟨hl, -⟩ | ⟨-, m, -, h2⟩
    · exact absurd hl hne
    · exact ih h2
/-- What is where round a node that has two children, and the one that takes its place. -/
structure Two (t : T) (z y : Int) : Prop where
  hz : t.has z
  hy : t.has y
  okU : t.ok (t.up z)
  okL : t.ok (t.kid z false)
  okR : t.has (t.kid z true)
  okX : t.ok (t.kid y true)
  zy : z ≠ y
  zU : z ≠ t.up z
  zL : z ≠ t.kid z false
  zR : z ≠ t.kid z true
  zX : z ≠ t.kid y true
  yU : y ≠ t.up z
  yL : y ≠ t.kid z false
  yX : y ≠ t.kid y true
  LR : t.kid z false ≠ t.kid z true
  LX : t.kid z false ≠ t.kid y true
  way : (y = t.kid z true ∧ t.up y = z ∧ t.side y = true ∧ (t.kid y true ≠ -1 → t.up (t.kid y true) = y)) ∨
    (y ≠ t.kid z true ∧ t.has (t.up y) ∧ t.up y ≠ z ∧ t.side y = false ∧ t.up y ≠ t.up z)
theorem two_of {t : T} {b : B} {z y : Int} {n : Nat} (hw : Whole t b) (hz : t.has z) (hi : (t.nd z).inn = true) (hl : t.kid z false ≠ -1) (hr : t.kid z true ≠ -1) (hm : Leftmost t n (t.kid z true) y) (hrb : ∃ N0, Rb b N0) (hred : b.isRed = false) : Two t z y := by
  obtain ⟨N0, hN0⟩ := hrb
  have hmem : z ∈ b.ids := by
    refine Classical.byContradiction fun hn => ?_
    have := hw.rest z hz hn
    rw [this] at hi
    cases hi
  obtain ⟨fs, c, v, kk, n1, h, -, hb, hc, hcr⟩ := find_all b ((Z_whole t b).2 hw) hN0 trivial (fun e => by rw [hred] at e; cases e) hmem
  have hup := place_up h (has_ne hz)
  have hup1 : t.up z = upOf fs := hup.1
  have hkl : t.kid z false = (kk false).rid := by unfold T.kid N.kid; rw [h.sub.2.1]; rfl
  have hkr : t.kid z true = (kk true).rid := by unfold T.kid N.kid; rw [h.sub.2.1]; rfl
  have hr' : kk true ≠ .L := fun e => hr (by rw [hkr, e]; rfl)
  have he := bn_eta true z c v kk
  have hz1 : Z t (kk true) (⟨true, z, c, v, kk false⟩ :: fs) := by
    rw [Z_step]
    show Z t (bn true z c v (kk true) (kk false)) fs
    have : B.N z c v kk = bn true z c v (kk true) (kk false) := he
    rw [← this]; exact h
  rw [he] at hb
  obtain ⟨n', s1, s2, s3⟩ := step_down hb hc hcr
  obtain ⟨k, y', cy, vy, x, gs, n2, a1, a2, a3, a4, a5, a6, a7⟩ := left_all (kk true) hr' hz1 s1 s2 s3
  rw [← hkr] at a1
  obtain rfl := hm.unique a1
  have hsy := (Sub_bn ..).1 a2.sub
  have hyh : t.has y := hsy.1
  have hyp := place_up a2 (show (bn true y cy vy x .L).rid ≠ -1 from has_ne hyh)
  have hyk : t.kid y true = x.rid := by unfold T.kid; rw [hsy.2.1]; rfl
  -- who is apart from whom
  have hn := (((ids_bn true y cy vy x .L).append_right (idsC (gs ++ ⟨true, z, c, v, kk false⟩ :: fs))).nodup_iff).1 a2.nod
  rw [List.append_assoc, List.nodup_append] at hn
  obtain ⟨nX, n2', n3⟩ := hn
  have n2'' : (y :: idsC (gs ++ ⟨true, z, c, v, kk false⟩ :: fs)).Nodup := by simpa [B.ids] using n2'
  obtain ⟨n4, nC⟩ := List.nodup_cons.1 n2''
  have xapart : ∀ i ∈ x.ids, i ≠ y ∧ i ∉ idsC (gs ++ ⟨true, z, c, v, kk false⟩ :: fs) := fun i hi => ⟨n3 i hi y (by simp), fun w => n3 i hi i (by simp [w]) rfl⟩
  have memC : ∀ (gs : List F) (i : Int), i ∈ idsC (gs ++ ⟨true, z, c, v, kk false⟩ :: fs) ↔ i ∈ idsC gs ∨ i = z ∨ i ∈ (kk false).ids ∨ i ∈ idsC fs := fun gs i => by
    induction gs with
    | nil => simp [idsC]
    | cons g gs ih =>
      simp only [List.cons_append, idsC, List.mem_cons, List.mem_append, ih]
      constructor
      · rintro (h | h | h | h | h | h)
        · exact .inl (.inl h)
        · exact .inl (.inr (.inl h))
        · exact .inl (.inr (.inr h))
        · exact .inr (.inl h)
        · exact .inr (.inr (.inl h))
        · exact .inr (.inr (.inr h))
      · rintro ((h | h | h) | h | h | h)
        · exact .inl h
        · exact .inr (.inl h)
        · exact .inr (.inr (.inl h))
        · exact .inr (.inr (.inr (.inl h)))
        · exact .inr (.inr (.inr (.inr (.inl h))))
        · exact .inr (.inr (.inr (.inr (.inr h))))
  have nodC : ∀ gs : List F, (idsC (gs ++ ⟨true, z, c, v, kk false⟩ :: fs)).Nodup → (∀ i ∈ idsC gs, i ≠ z ∧ i ∉ (kk false).ids ∧ i ∉ idsC fs) ∧ z ∉ (kk false).ids ∧ z ∉ idsC fs ∧ ∀ i ∈ (kk false).ids, i ∉ idsC fs := fun gs => by
    induction gs with
    | nil =>
      intro hd
      have hd' : (z :: ((kk false).ids ++ idsC fs)).Nodup := hd
      rw [List.nodup_cons, List.nodup_append] at hd'
      simp only [List.mem_append, not_or] at hd'
      exact ⟨by simp [idsC], hd'.1.1, hd'.1.2, fun i hi w => hd'.2.2.2 i hi i w rfl⟩
    | cons g gs ih =>
      intro hd
      have hd' : (g.i :: (g.o.ids ++ idsC (gs ++ ⟨true, z, c, v, kk false⟩ :: fs))).Nodup := hd
      rw [List.nodup_cons, List.nodup_append] at hd'
      obtain ⟨p1, p2, p3, p4⟩ := hd'
      obtain ⟨q1, q2, q3, q4⟩ := ih p3
      refine ⟨fun i hi => ?_, q2, q3, q4⟩
      simp only [idsC, List.mem_cons, List.mem_append] at hi
      have out : ∀ i, i ∉ idsC (gs ++ ⟨true, z, c, v, kk false⟩ :: fs) → i ≠ z ∧ i ∉ (kk false).ids ∧ i ∉ idsC fs := fun i hi => by
        rw [memC] at hi
        simp only [not_or] at hi
        exact ⟨hi.2.1, hi.2.2.1, hi.2.2.2⟩
      rcases hi with rfl | hi | hi
      · simp only [List.mem_append, not_or] at p1
        exact out _ p1.2
      · exact out i (fun w => p4 i hi i w rfl)
      · exact q1 i hi
  obtain ⟨d1, d2, d3, d4⟩ := nodC gs nC
  rw [memC] at n4
  simp only [not_or] at n4
  obtain ⟨y1, y2, y3, y4⟩ := n4
  have lm : (kk false).rid ∈ (kk false).ids := (rid_mem (kk false)).resolve_left (fun e => hl (by rw [hkl, e]))
  have um := upOf_mem fs
  have xm := rid_mem x
  have zid : z ∈ idsC (gs ++ ⟨true, z, c, v, kk false⟩ :: fs) := (memC gs z).2 (.inr (.inl rfl))
  have hxne : ∀ i, (i = -1 → x.rid = -1 → False) → (i ∈ idsC (gs ++ ⟨true, z, c, v, kk false⟩ :: fs) ∨ i = y) → i ≠ x.rid := fun i _ hi e => by
    rcases xm with w | w
    · rcases hi with hi | hi
      · have := (a2.ctx.has i hi).1; omega
      · have := hyh.1; omega
    · rcases hi with hi | hi
      · exact (xapart _ w).2 (by rw [← e]; exact hi)
      · exact (xapart _ w).1 (by rw [← e, hi])
  have hRid : (kk true).rid = y ∨ (kk true).rid ∈ idsC gs := by
    rw [← a3]
    clear a1 a2 a3 a4 a5 a6 a7 hyp n2' n2'' nC n3 zid d1 y1 hxne xapart memC nodC
    have key : ∀ (gs : List F) (b : B), (plug b gs).rid = b.rid ∨ (plug b gs).rid ∈ idsC gs := fun gs => by
      induction gs with
      | nil => intro b; exact .inl rfl
      | cons g gs ih =>
        intro b
        rcases ih (g.put b) with e | e
        · exact .inr (by show (plug (g.put b) gs).rid ∈ _; rw [e]; show g.i ∈ _; simp [idsC])
        · exact .inr (by show (plug (g.put b) gs).rid ∈ _; simp only [idsC, List.mem_cons, List.mem_append]; exact .inr (.inr e))
    exact key gs _
  have hzR : z ≠ (kk true).rid := fun e => by
    rcases hRid with w | w
    · exact y2 (w.symm.trans e.symm)
    · exact (d1 _ w).1 e.symm
  refine ⟨hz, hyh, by rw [hup1]; exact h.ctx.ok, by rw [hkl]; exact h.sub.2.2.1.ok, ?_, by rw [hyk]; exact hsy.2.2.1.ok, fun e => y2 e.symm, ?_, ?_, by rw [hkr]; exact hzR, ?_, ?_, ?_, ?_, ?_, ?_, ?_⟩
  · rw [hkr]; exact h.sub.2.2.2.ok.resolve_left (fun e => hr (by rw [hkr, e]))
  · rw [hup1]; exact fun e => um.elim (fun w => has_ne hz (e.trans w)) (fun w => d3 (by rw [e]; exact w))
  · rw [hkl]; exact fun e => d2 (by rw [e]; exact lm)
  · rw [hyk]; exact hxne z (fun a _ => has_ne hz a) (.inl zid)
  · rw [hup1]; exact fun e => um.elim (fun w => has_ne hyh (e.trans w)) (fun w => y4 (by rw [e]; exact w))
  · rw [hkl]; exact fun e => y3 (by rw [e]; exact lm)
  · rw [hyk]; exact hxne y (fun a _ => has_ne hyh a) (.inr rfl)
  · rw [hkl, hkr]
    intro e
    rcases hRid with w | w
    · exact y3 (by rw [← w, ← e]; exact lm)
    · exact (d1 _ w).2.1 (by rw [← e]; exact lm)
  · rw [hkl, hyk]
    intro e
    rcases xm with w | w
    · exact hl (by rw [hkl, e, w])
    · exact (xapart _ w).2 ((memC gs _).2 (.inr (.inr (.inl (by rw [← e]; exact lm)))))
  · cases gs with
    | nil =>
      left
      have e1 : (kk true).rid = y := by rw [← a3]; rfl
      refine ⟨by rw [hkr, e1], hyp.1, hyp.2, fun hne => ?_⟩
      rw [hyk] at hne ⊢
      cases x with
      | L => exact absurd rfl hne
      | N i c' v' k' =>
        show (t.nd i).u = y
        rw [hsy.2.2.1.2.1]
    | cons g gs =>
      right
      have hg : g.i ∈ idsC (g :: gs) := by simp [idsC]
      have e1 : t.up y = g.i := hyp.1
      have e2 : t.side y = g.s := hyp.2
      refine ⟨?_, ?_, by rw [e1]; exact (d1 _ hg).1, by rw [e2]; exact a4 g (by simp), ?_⟩
      · rw [hkr, ← a3]
        intro e
        have key : ∀ (gs : List F) (b : B), (plug b gs).rid = b.rid ∨ (plug b gs).rid ∈ idsC gs := fun gs => by
          induction gs with
          | nil => intro b; exact .inl rfl
          | cons g gs ih =>
            intro b
            rcases ih (g.put b) with e | e
            · exact .inr (by show (plug (g.put b) gs).rid ∈ _; rw [e]; show g.i ∈ _; simp [idsC])
            · exact .inr (by show (plug (g.put b) gs).rid ∈ _; simp only [idsC, List.mem_cons, List.mem_append]; exact .inr (.inr e))
        refine y1 ?_
        rw [e]
        show (plug (g.put (bn true y cy vy x .L)) gs).rid ∈ _
        rcases key gs (g.put (bn true y cy vy x .L)) with w | w
        · rw [w]; exact hg
        · simp only [idsC, List.mem_cons, List.mem_append]; exact .inr (.inr w)
      · rw [e1]; exact a2.ctx.has _ (by simp [idsC])
      · rw [e1, hup1]
        exact fun e => um.elim (fun w => by have := (a2.ctx.has g.i (by simp [idsC])).1; omega) (fun w => (d1 _ hg).2.2 (by rw [e]; exact w))
theorem kid_hang {t : T} {u y j : Int} {s s' : Bool} (hu : t.ok u) (hy : t.ok y) (hj : 0 ≤ j) (h : j ≠ u ∨ s ≠ s') : (t.hang u s y).kid j s' = t.kid j s' := by
  unfold T.kid
  rw [nd_hang hu hy s hj]
  have e : ∀ n : N, (n.setUp u).kid s' = n.kid s' := fun n => by cases s' <;> rfl
  have e2 : s ≠ s' → ∀ n : N, (n.setKid s y).kid s' = n.kid s' := fun hs n => by cases s <;> cases s' <;> first | rfl | exact absurd rfl hs
  by_cases a : j = u
  · have hs := h.resolve_left (fun w => w a)
    rw [if_pos a]
    split
    · rw [e, e2 hs]
    · rw [e2 hs]
  · rw [if_neg a]
    split
    · rw [e]
    · rfl
theorem kid_hang_at {t : T} {u y : Int} {s : Bool} (hu : t.has u) (hy : t.ok y) : (t.hang u s y).kid u s = y := by
  unfold T.kid
  rw [nd_hang (.inr hu) hy s hu.1]
  have e : ∀ (n : N) (x : Int), (n.setUp x).kid s = n.kid s := fun n x => by cases s <;> rfl
  have e2 : ∀ n : N, (n.setKid s y).kid s = y := fun n => by cases s <;> rfl
  rw [if_pos rfl]
  split
  · rw [e, e2]
  · rw [e2]
theorem up_hang {t : T} {u y j : Int} {s : Bool} (hu : t.ok u) (hy : t.ok y) (hj : 0 ≤ j) (h : j ≠ y) : (t.hang u s y).up j = t.up j := by
  unfold T.up
  rw [nd_hang hu hy s hj, if_neg h]
  split
  · cases s <;> rfl
  · rfl
theorem red_hang {t : T} {u y j : Int} {s : Bool} (hu : t.ok u) (hy : t.ok y) (hj : 0 ≤ j) : ((t.hang u s y).nd j).red = (t.nd j).red := by
  rw [nd_hang hu hy s hj]
  split <;> split <;> cases s <;> rfl
theorem side_hang {t : T} {u y j : Int} {s : Bool} (hu : t.ok u) (hy : t.ok y) (hj : 0 ≤ j) (h : j ≠ y) (ho : t.ok (t.up j)) (h2 : t.up j ≠ u ∨ t.up j = -1) : (t.hang u s y).side j = t.side j := by
  unfold T.side
  rw [up_hang hu hy hj h]
  by_cases e : t.up j = -1
  · simp [e]
  · rw [kid_hang hu hy (ho.resolve_left e).1 (.inl (h2.resolve_right e))]
theorem okh {t : T} {u y x : Int} {s : Bool} (h : t.ok x) : (t.hang u s y).ok x := (ok_len (hang_len ..)).2 h
theorem hash {t : T} {u y x : Int} {s : Bool} (h : t.has x) : (t.hang u s y).has x := (has_len (hang_len ..)).2 h
/-- What the program makes of a tree, y being taken from further down: the document's way. -/
theorem rep_down {t : T} {z y : Int} (h : Two t z y) (hw : y ≠ t.kid z true ∧ t.has (t.up y) ∧ t.up y ≠ z ∧ t.side y = false ∧ t.up y ≠ t.up z) :
    rep5 t z y = ((((t.hang (t.up y) false (t.kid y true)).hang y true (t.kid z true)).hang (t.up z) (t.side z) y).hang y false (t.kid z false)).paint y (t.nd z).red := by
  obtain ⟨w1, w2, w3, w4, w5⟩ := hw
  have z0 := h.hz.1
  obtain ⟨r1, e1⟩ : ∃ r1, t.hang (t.up y) false (t.kid y true) = r1 := ⟨_, rfl⟩
  have f1 : rep1 t y = r1 := by unfold rep1; rw [w4, e1]
  have l1 : r1.ns.length = t.ns.length := by rw [← e1, hang_len]
  have u1 : r1.up z = t.up z := by rw [← e1]; exact up_hang (.inr w2) h.okX z0 h.zX
  have s1 : r1.side z = t.side z := by rw [← e1]; exact side_hang (.inr w2) h.okX z0 h.zX h.okU (.inl (fun e => w5 e.symm))
  have k1 : ∀ s, r1.kid z s = t.kid z s := fun s => by rw [← e1]; exact kid_hang (.inr w2) h.okX z0 (.inl (fun e => w3 e.symm))
  have c1 : (r1.nd z).red = (t.nd z).red := by rw [← e1]; exact red_hang (.inr w2) h.okX z0
  have okU1 : r1.ok (t.up z) := (ok_len l1).2 h.okU
  have hy1 : r1.has y := (has_len l1).2 h.hy
  have okL1 : r1.ok (t.kid z false) := (ok_len l1).2 h.okL
  have hR1 : r1.has (t.kid z true) := (has_len l1).2 h.okR
  have f2 : rep2 t z y = r1.hang (t.up z) (t.side z) y := by unfold rep2; rw [f1, u1, s1]
  have k2 : ∀ s, (rep2 t z y).kid z s = t.kid z s := fun s => by rw [f2, kid_hang okU1 (.inr hy1) z0 (.inl h.zU), k1]
  have f3 : rep3 t z y = (r1.hang (t.up z) (t.side z) y).hang y false (t.kid z false) := by unfold rep3; rw [k2, f2]
  have k3 : (rep3 t z y).kid z true = t.kid z true := by rw [f3, kid_hang (.inr (hash hy1)) (okh okL1) z0 (.inl h.zy), ← f2, k2]
  have f4 : rep4 t z y = ((r1.hang (t.up z) (t.side z) y).hang y false (t.kid z false)).hang y true (t.kid z true) := by unfold rep4; rw [k3, f3]
  have c4 : ((rep4 t z y).nd z).red = (t.nd z).red := by rw [f4, red_hang (.inr (hash (hash hy1))) (.inr (hash (hash hR1))) z0, red_hang (.inr (hash hy1)) (okh okL1) z0, red_hang okU1 (.inr hy1) z0, c1]
  have f5 : rep5 t z y = (rep4 t z y).paint y (t.nd z).red := by unfold rep5; rw [c4]
  rw [f5, f4, hang_comm (.inr (hash hy1)) (.inr (hash hy1)) (okh okL1) (.inr (hash hR1)) (.inr ⟨by simp, has_ne h.hy⟩) h.LR, hang_comm okU1 (.inr hy1) (.inr hy1) (.inr hR1) (.inl (fun e => h.yU e.symm)) w1, e1]
/-- What the program makes of a tree, y being the child itself: the document's way. -/
theorem rep_near {t : T} {z y : Int} (h : Two t z y) (hw : y = t.kid z true ∧ t.up y = z ∧ t.side y = true ∧ (t.kid y true ≠ -1 → t.up (t.kid y true) = y)) :
    (rep5 t z y).put z nE = (((t.hang (t.up z) (t.side z) y).hang y false (t.kid z false)).paint y (t.nd z).red).put z nE := by
  obtain ⟨w1, w2, w3, w4⟩ := hw
  have z0 := h.hz.1
  obtain ⟨x, hx⟩ : ∃ x, t.kid y true = x := ⟨_, rfl⟩
  have okX := h.okX
  have zX := h.zX
  have yX := h.yX
  rw [hx] at w4 okX zX yX
  obtain ⟨r1, e1⟩ : ∃ r1, t.hang z true x = r1 := ⟨_, rfl⟩
  have f1 : rep1 t y = r1 := by unfold rep1; rw [w2, w3, hx, e1]
  have l1 : r1.ns.length = t.ns.length := by rw [← e1, hang_len]
  have u1 : r1.up z = t.up z := by rw [← e1]; exact up_hang (.inr h.hz) okX z0 zX
  have s1 : r1.side z = t.side z := by rw [← e1]; exact side_hang (.inr h.hz) okX z0 zX h.okU (.inl (fun e => h.zU e.symm))
  have kl1 : r1.kid z false = t.kid z false := by rw [← e1]; exact kid_hang (.inr h.hz) okX z0 (.inr (by simp))
  have kr1 : r1.kid z true = x := by rw [← e1]; exact kid_hang_at h.hz okX
  have c1 : (r1.nd z).red = (t.nd z).red := by rw [← e1]; exact red_hang (.inr h.hz) okX z0
  have okU1 : r1.ok (t.up z) := (ok_len l1).2 h.okU
  have hy1 : r1.has y := (has_len l1).2 h.hy
  have okL1 : r1.ok (t.kid z false) := (ok_len l1).2 h.okL
  have okX1 : r1.ok x := (ok_len l1).2 okX
  have f2 : rep2 t z y = r1.hang (t.up z) (t.side z) y := by unfold rep2; rw [f1, u1, s1]
  have k2 : ∀ s, (rep2 t z y).kid z s = r1.kid z s := fun s => by rw [f2, kid_hang okU1 (.inr hy1) z0 (.inl h.zU)]
  have f3 : rep3 t z y = (r1.hang (t.up z) (t.side z) y).hang y false (t.kid z false) := by unfold rep3; rw [k2, kl1, f2]
  have k3 : (rep3 t z y).kid z true = x := by rw [f3, kid_hang (.inr (hash hy1)) (okh okL1) z0 (.inl h.zy), ← f2, k2, kr1]
  have f4 : rep4 t z y = ((r1.hang (t.up z) (t.side z) y).hang y false (t.kid z false)).hang y true x := by unfold rep4; rw [k3, f3]
  have c4 : ((rep4 t z y).nd z).red = (t.nd z).red := by rw [f4, red_hang (.inr (hash (hash hy1))) (okh (okh okX1)) z0, red_hang (.inr (hash hy1)) (okh okL1) z0, red_hang okU1 (.inr hy1) z0, c1]
  have f5 : rep5 t z y = (rep4 t z y).paint y (t.nd z).red := by unfold rep5; rw [c4]
  have Lx : t.kid z false ≠ x := by rw [← hx]; exact h.LX
  have base : r1.hang y true x = t.put z ((t.nd z).setKid true x) := by
    refine T_ext ?_ (by rw [hang_len, put_len, l1]) fun j hj => ?_
    · rw [root_hang, if_neg (has_ne h.hy), ← e1, root_hang, if_neg (has_ne h.hz)]; rfl
    · have hj0 := hj.1
      rw [nd_hang (.inr hy1) okX1 true hj0, ← e1, nd_hang (.inr h.hz) okX true hj0, nd_put h.hz _ hj0]
      by_cases a : j = z
      · have b1 : j ≠ x := fun e => zX (a.symm.trans e)
        have b2 : j ≠ y := fun e => h.zy (a.symm.trans e)
        rw [if_neg b1, if_neg b2, if_neg b1, if_pos a, if_pos a, a]
      · rw [if_neg a, if_neg a]
        by_cases b : j = x
        · have b2 : j ≠ y := fun e => yX (e.symm.trans b)
          rw [if_pos b, if_neg b2, if_pos b]
          have hne : x ≠ -1 := fun e => by omega
          have := w4 hne
          rw [← b] at this
          show ((t.nd j).setUp z).setUp y = t.nd j
          unfold T.up at this
          show { t.nd j with u := y } = t.nd j
          rw [← this]
        · rw [if_neg b, if_neg b]
          by_cases d : j = y
          · rw [if_pos d]
            have hx' : (t.nd j).r = x := by rw [d]; exact hx
            show { t.nd j with r := x } = t.nd j
            rw [← hx']
          · rw [if_neg d]
  rw [f5, f4, hang_comm (.inr (hash hy1)) (.inr (hash hy1)) (okh okL1) (okh okX1) (.inr ⟨by simp, has_ne h.hy⟩) Lx, hang_comm okU1 (.inr hy1) (.inr hy1) okX1 (.inl (fun e => h.yU e.symm)) yX, base,
    put_hang _ h.hz h.okU (.inr h.hy) h.zU h.zy, put_hang _ (hash h.hz) (.inr (hash h.hy)) (okh h.okL) h.zy h.zL, put_paint _ (hash (hash h.hz)) (hash (hash h.hy)) h.zy, put_put]
end Tr
end Go.Proofs.Ytgjacmkedgbneaa

namespace Go.Proofs.Ytgjacmkedgbneaa
open Go.RowKit Go.Sort Ky Wd Tn Tr

set_option maxHeartbeats 4000000 in
set_option maxRecDepth 100000 in
theorem rmended_at {W : World} {v : Value} {t t' : T} {x : Int} {n : Nat} (hN : Nds W v t.ns) (hl : t.ns.length ≤ 1000) (hm : Mend n t x t') :
    Calls Try.prog 41 #[.agg #[.int .i64 t.root, v], .int .i64 x] W (Rt W v t') := by
  have HB := Lib.hid (Bx.start hN)
  have HM0 := Lib.hid hm
  have HL0 : Hid (t'.ns.length = t.ns.length) := Lib.hid hm.len
  obtain ⟨a, cap, rfl, -, -⟩ := hN.len
  clear hN hm
  go_enter Try.func41, Try.ntmps41
  go_upto_region 1 with fail
  generalize (W.alloc (.cells #[.int .i64 t.root, .slice a t.ns.length cap] 24)).alloc (.cells #[.int .i64 0, .slice none 0 0] 24) = w1 at HB ⊢
  go_loopg [1] n (fun k x1 wr => ∃ (t1 : T) (v1 : Value) (x2 : Int), x1 = .int .i64 x2 ∧ Hid (Bx W wr (.slice a t.ns.length cap) t1 v1 ∧ t1.ns.length = t.ns.length ∧ Mend k t1 x2 t'))
  case atStart => exact ⟨t, _, x, rfl, Lib.hid ⟨HB.out, rfl, HM0.out⟩⟩
  case round =>
    obtain ⟨t1, v1, x2, rfl, HR⟩ := hrel
    clear HB HM0
    obtain ⟨hbx, hln, hm⟩ := HR.out
    have HB := Lib.hid hbx
    have HLN := Lib.hid hln
    have hl1 : t1.ns.length ≤ 1000 := by rw [hln]; exact hl
    clear HR hbx hln
    rcases rmend_parts hm with ⟨hx, hu, hr, h0, ht'⟩ | ⟨m, p, g, u, s, hmn, hx, ep, hp, rp, eg, hg, es, eu, hu, hway⟩
    · obtain ⟨k, rfl, hk⟩ := has_nat hx
      have HOK := Lib.hid hu
      have HRED := Lib.hid hr
      have H0 := Lib.hid h0
      have HT := Lib.hid ht'
      clear hx hu hr h0 ht' hm
      obtain ⟨nb, off, cap1, rfl, hc1, hc2, -⟩ := HB.out.nd.at hk
      unfold maxLen at hc2
      obtain ⟨x0, x1, x2, x3⟩ := HB.out.tb.all
      have m5 := HB.out.nd.upc hk
      have HKD : Hid (Calls Try.prog 47 #[.agg #[.int .i64 t1.root, .slice (some ⟨nb, off, none⟩) t1.ns.length cap1], .int .i64 (t1.up k)] wr.drew fun e w' => e = .returned (.bool false) ∧ Gr wr.drew w') := Lib.hid (by
        have h1 := rred_at (W := wr.drew) (v := .slice (some ⟨nb, off, none⟩) t1.ns.length cap1) (t := t1) HB.out.nd (x := (t1.up k)) HOK.out
        rw [HRED.out] at h1
        exact h1)
      have HG1 : Hid (∀ X, Gr wr.drew X → Bx W X (.slice a t.ns.length cap) t1 (.slice (some ⟨nb, off, none⟩) t1.ns.length cap1)) := Lib.hid (fun X hX => HB.out.gr ((Gr.drew wr 1).trans hX))
      generalize t1.up k = u at m5 HKD HOK HRED
      clear HB
      go_wp2_with fail
      go_region_law (first
        | (go_simp; go_at_call 47; refine HKD.out.mono ?_; rintro e' w4 ⟨rfl, hg4⟩))
      all_goals
        have HB := Lib.hid (HG1.out w4 hg4)
        clear x0 x1 x2 x3 m5 HKD HG1 hg4
        obtain ⟨x0, x1, x2, x3⟩ := HB.out.tb.all
        go_wp2_with fail
        refine (HB.out.s.paint hl1 H0.out false).mono ?_
        rintro e' w5 ⟨v5, rfl, s5⟩
        rw [← HT.out] at s5 ⊢
        obtain ⟨a5, c5, rfl, -, -⟩ := s5.nd.len
        have HF := Lib.hid (HB.out.fst s5 (HL0.out.trans HLN.out.symm))
        obtain ⟨y0, y1, y2, y3⟩ := HB.out.fstc s5
        clear x0 x1 x2 x3 s5 HB
        go_wp2
        obtain ⟨z0, z1, -, -⟩ := HF.out.rb.all
        exact bodyPost_ret (v := .agg #[.int .i64 t'.root, .slice a5 t'.ns.length c5]) (by simp [results, Try.results41, go_sem, z0, z1]) rfl ⟨_, rfl, HF.out.nd, HF.out.bl, HF.out.dj⟩
    · obtain ⟨k, rfl, hk⟩ := has_nat hx
      obtain ⟨kp, rfl, hkp⟩ := has_nat hp
      obtain ⟨kg, rfl, hkg⟩ := has_nat hg
      have HOK : Hid (t1.ok kp) := Lib.hid (.inr hp)
      have HRED := Lib.hid rp
      have EP := Lib.hid ep
      have EG := Lib.hid eg
      have ES := Lib.hid es
      have EU := Lib.hid eu
      have HX := Lib.hid hx
      have HPP := Lib.hid hp
      have HG := Lib.hid hg
      have HU := Lib.hid hu
      have HMN := Lib.hid hmn
      have HWAY := Lib.hid hway
      clear hx ep hp rp eg hg es eu hu hway hm hmn
      obtain ⟨nb, off, cap1, rfl, hc1, hc2, -⟩ := HB.out.nd.at hk
      unfold maxLen at hc2
      obtain ⟨x0, x1, x2, x3⟩ := HB.out.tb.all
      have m5 := HB.out.nd.upc hk
      have HKD : Hid (Calls Try.prog 47 #[.agg #[.int .i64 t1.root, .slice (some ⟨nb, off, none⟩) t1.ns.length cap1], .int .i64 (kp : Int)] wr.drew fun e w' => e = .returned (.bool true) ∧ Gr wr.drew w') := Lib.hid (by
        have h1 := rred_at (W := wr.drew) (v := .slice (some ⟨nb, off, none⟩) t1.ns.length cap1) (t := t1) HB.out.nd (x := (kp : Int)) HOK.out
        rw [HRED.out] at h1
        exact h1)
      have HG1 : Hid (∀ X, Gr wr.drew X → Bx W X (.slice a t.ns.length cap) t1 (.slice (some ⟨nb, off, none⟩) t1.ns.length cap1)) := Lib.hid (fun X hX => HB.out.gr ((Gr.drew wr 1).trans hX))
      rw [EP.out] at m5
      clear HB
      go_wp2_with fail
      go_region_law (first
        | (go_simp; go_at_call 47; refine HKD.out.mono ?_; rintro e' w4 ⟨rfl, hg4⟩))
      all_goals
        have HB := Lib.hid (HG1.out w4 hg4)
        clear x0 x1 x2 x3 m5 HKD HG1 hg4
        obtain ⟨x0, x1, x2, x3⟩ := HB.out.tb.all
        have m5 := HB.out.nd.upc hk
        rw [EP.out] at m5
        have n5 := HB.out.nd.upc hkp
        rw [EG.out] at n5
        have hsub := sI_sub s
        go_wp2_with fail
        refine (rside_at HB.out.nd HPP.out (by rw [EG.out]; exact .inr HG.out)).mono ?_
        rintro e' w5 ⟨rfl, hgg⟩
        rw [ES.out]
        have HB1 := Lib.hid (HB.out.gr hgg)
        clear x0 x1 x2 x3 m5 n5 hgg HB
        obtain ⟨x0, x1, x2, x3⟩ := HB1.out.tb.all
        go_wp2_with fail
        refine (rkid_at HB1.out.nd HG.out (!s)).mono ?_
        rintro e' w6 ⟨rfl, hgg⟩
        rw [EU.out]
        have HB2 := Lib.hid (HB1.out.gr hgg)
        clear x0 x1 x2 x3 hgg HB1
        obtain ⟨x0, x1, x2, x3⟩ := HB2.out.tb.all
        go_wp2_with fail
        refine (rred_at HB2.out.nd HU.out).mono ?_
        rintro e' w7 ⟨rfl, hgg⟩
        have HB3 := Lib.hid (HB2.out.gr hgg)
        clear x0 x1 x2 x3 hgg HB2
        rcases HWAY.out with ⟨ru, hu, rest⟩ | ⟨ru, ex, ht, rest⟩ | ⟨ru, ex, h1, e1, ht, rest⟩
        · rw [ru]
          have HU1 := Lib.hid hu
          have HN := Lib.hid rest
          clear ru hu rest HWAY
          obtain ⟨t2, e2⟩ : ∃ t2, t1.paint kp false = t2 := ⟨_, rfl⟩
          obtain ⟨t3, e3⟩ : ∃ t3, t2.paint u false = t3 := ⟨_, rfl⟩
          obtain ⟨t4, e4⟩ : ∃ t4, t3.paint kg true = t4 := ⟨_, rfl⟩
          rw [e2, e3, e4] at HN
          have L2 : Hid (t2.ns.length = t1.ns.length ∧ t3.ns.length = t1.ns.length ∧ t4.ns.length = t1.ns.length) := Lib.hid (by rw [← e4, paint_len, ← e3, paint_len, ← e2, paint_len]; exact ⟨rfl, rfl, rfl⟩)
          have E2 := Lib.hid (And.intro e2 (And.intro e3 e4))
          clear e2 e3 e4
          obtain ⟨x0, x1, x2, x3⟩ := HB3.out.tb.all
          go_wp2_with fail
          refine (HB3.out.s.paint hl1 HPP.out false).mono ?_
          rintro e' wq0 ⟨vq0, rfl, sq0⟩
          rw [E2.out.1] at sq0 ⊢
          obtain ⟨aq0, cq0, rfl, -, -⟩ := sq0.nd.len
          have SQ0 := Lib.hid sq0
          clear sq0
          go_wp2_with fail
          refine (SQ0.out.paint (by rw [L2.out.1]; exact hl1) ((has_len L2.out.1).2 HU1.out) false).mono ?_
          rintro e' wq1 ⟨vq1, rfl, sq1⟩
          rw [E2.out.2.1] at sq1 ⊢
          obtain ⟨aq1, cq1, rfl, -, -⟩ := sq1.nd.len
          have SQ1 := Lib.hid sq1
          clear sq1
          go_wp2_with fail
          refine (SQ1.out.paint (by rw [L2.out.2.1]; exact hl1) ((has_len L2.out.2.1).2 HG.out) true).mono ?_
          rintro e' wq2 ⟨vq2, rfl, sq2⟩
          rw [E2.out.2.2] at sq2 ⊢
          obtain ⟨aq2, cq2, rfl, -, -⟩ := sq2.nd.len
          have SQ2 := Lib.hid sq2
          clear sq2
          have HB4 := Lib.hid (HB3.out.st SQ2.out L2.out.2.2)
          obtain ⟨y0, y1, y2, y3⟩ := HB3.out.stc SQ2.out
          clear x0 x1 x2 x3 SQ0 SQ1 HB3
          go_wp2
          go_roundg m
          case measure => have := HMN.out; omega
          case rel => exact ⟨t4, _, _, rfl, Lib.hid ⟨HB4.out, L2.out.2.2.trans HLN.out, HN.out⟩⟩
        · rw [ru]
          have HN := Lib.hid rest
          have HTT := Lib.hid ht
          have EX := Lib.hid ex
          clear ru ex ht rest HWAY
          obtain ⟨t3, e3⟩ : ∃ t3, t1.paint kp false = t3 := ⟨_, rfl⟩
          obtain ⟨t4, e4⟩ : ∃ t4, t3.paint kg true = t4 := ⟨_, rfl⟩
          obtain ⟨t5, e5⟩ : ∃ t5, t4.turn kg (!s) = t5 := ⟨_, rfl⟩
          rw [e3, e4, e5] at HN
          rw [e3, e4] at HTT
          have L3 : Hid (t3.ns.length = t1.ns.length ∧ t4.ns.length = t1.ns.length ∧ t5.ns.length = t1.ns.length) := Lib.hid (by rw [← e5, turn_len, ← e4, paint_len, ← e3, paint_len]; exact ⟨rfl, rfl, rfl⟩)
          have E3 := Lib.hid (And.intro e3 (And.intro e4 e5))
          clear e3 e4 e5
          have hse := sI_eq s
          obtain ⟨x0, x1, x2, x3⟩ := HB3.out.tb.all
          go_wp2_with fail
          refine (rside_at HB3.out.nd HX.out (by rw [EP.out]; exact .inr HPP.out)).mono ?_
          rintro e' w8 ⟨rfl, hgg⟩
          rw [EX.out]
          have HB4 := Lib.hid (HB3.out.gr hgg)
          clear x0 x1 x2 x3 hgg HB3
          obtain ⟨x0, x1, x2, x3⟩ := HB4.out.tb.all
          go_wp2_with fail
          refine (HB4.out.s.paint hl1 HPP.out false).mono ?_
          rintro e' wq5 ⟨vq5, rfl, sq5⟩
          rw [E3.out.1] at sq5 ⊢
          obtain ⟨aq5, cq5, rfl, -, -⟩ := sq5.nd.len
          have SQ5 := Lib.hid sq5
          clear sq5
          go_wp2_with fail
          refine (SQ5.out.paint (by rw [L3.out.1]; exact hl1) ((has_len L3.out.1).2 HG.out) true).mono ?_
          rintro e' wq6 ⟨vq6, rfl, sq6⟩
          rw [E3.out.2.1] at sq6 ⊢
          obtain ⟨aq6, cq6, rfl, -, -⟩ := sq6.nd.len
          have SQ6 := Lib.hid sq6
          clear sq6
          have HB8 := Lib.hid (HB4.out.st SQ6.out L3.out.2.1)
          obtain ⟨y0, y1, y2, y3⟩ := HB4.out.stc SQ6.out
          clear x0 x1 x2 x3 SQ5 HB4
          go_upto_region 14 with fail
          clear y0 y1 y2 y3
          generalize (wq6.setCell ⟨W.heap.size, 0, none⟩ (.int .i64 t4.root)).setCell ⟨W.heap.size, 1, none⟩ (.slice aq6 t4.ns.length cq6) = w9 at HB8 ⊢
          obtain ⟨x0, x1, x2, x3⟩ := HB8.out.tb.all
          go_wp2_with fail
          refine (HB8.out.s.turn (by rw [L3.out.2.1]; exact hl1) (!s) HTT.out).mono ?_
          rintro e' wq7 ⟨vq7, rfl, sq7⟩
          rw [E3.out.2.2] at sq7 ⊢
          obtain ⟨aq7, cq7, rfl, -, -⟩ := sq7.nd.len
          have SQ7 := Lib.hid sq7
          clear sq7
          have HB9 := Lib.hid (HB8.out.st SQ7.out (L3.out.2.2.trans L3.out.2.1.symm))
          obtain ⟨y0, y1, y2, y3⟩ := HB8.out.stc SQ7.out
          clear x0 x1 x2 x3  HB8
          go_wp2
          go_roundg m
          case measure => have := HMN.out; omega
          case rel => exact ⟨t5, _, _, rfl, Lib.hid ⟨HB9.out, L3.out.2.2.trans HLN.out, HN.out⟩⟩
        · rw [ru]
          have HN := Lib.hid rest
          have HTT := Lib.hid ht
          have HT1 := Lib.hid h1
          have EX := Lib.hid ex
          have E1 := Lib.hid e1
          clear ru ex ht rest h1 e1 HWAY
          obtain ⟨t2, e2⟩ : ∃ t2, t1.turn kp s = t2 := ⟨_, rfl⟩
          obtain ⟨t3, e3⟩ : ∃ t3, t2.paint k false = t3 := ⟨_, rfl⟩
          obtain ⟨t4, e4⟩ : ∃ t4, t3.paint kg true = t4 := ⟨_, rfl⟩
          obtain ⟨t5, e5⟩ : ∃ t5, t4.turn kg (!s) = t5 := ⟨_, rfl⟩
          rw [e2, e3, e4, e5] at HN
          rw [e2, e3, e4] at HTT
          rw [e2] at E1
          have LB : Hid (t2.ns.length = t1.ns.length) := Lib.hid (by rw [← e2, turn_len])
          have L3 : Hid (t3.ns.length = t1.ns.length ∧ t4.ns.length = t1.ns.length ∧ t5.ns.length = t1.ns.length) := Lib.hid (by rw [← e5, turn_len, ← e4, paint_len, ← e3, paint_len]; exact ⟨LB.out, LB.out, LB.out⟩)
          have E2 := Lib.hid e2
          have E3 := Lib.hid (And.intro e3 (And.intro e4 e5))
          clear e2 e3 e4 e5
          have hse := sI_ne s
          obtain ⟨x0, x1, x2, x3⟩ := HB3.out.tb.all
          go_wp2_with fail
          refine (rside_at HB3.out.nd HX.out (by rw [EP.out]; exact .inr HPP.out)).mono ?_
          rintro e' w8 ⟨rfl, hgg⟩
          rw [EX.out]
          have HB4 := Lib.hid (HB3.out.gr hgg)
          clear x0 x1 x2 x3 hgg HB3
          obtain ⟨x0, x1, x2, x3⟩ := HB4.out.tb.all
          go_wp2_with fail
          refine (HB4.out.s.turn hl1 s HT1.out).mono ?_
          rintro e' wq3 ⟨vq3, rfl, sq3⟩
          rw [E2.out] at sq3 ⊢
          obtain ⟨aq3, cq3, rfl, -, -⟩ := sq3.nd.len
          have SQ3 := Lib.hid sq3
          clear sq3
          have HB5 := Lib.hid (HB4.out.st SQ3.out LB.out)
          obtain ⟨y0, y1, y2, y3⟩ := HB4.out.stc SQ3.out
          clear x0 x1 x2 x3  HB4
          go_upto_region 11 with fail
          clear y0 y1 y2 y3
          generalize (wq3.setCell ⟨W.heap.size, 0, none⟩ (.int .i64 t2.root)).setCell ⟨W.heap.size, 1, none⟩ (.slice aq3 t2.ns.length cq3) = w85 at HB5 ⊢
          have hkp2 : kp < t2.ns.length := by rw [LB.out]; exact hkp
          obtain ⟨nb2, off2, cap2, he2, hd1, hd2, -⟩ := HB5.out.nd.at hkp2
          simp only [Value.slice.injEq] at he2
          obtain ⟨rfl, -, rfl⟩ := he2
          unfold maxLen at hd2
          have m5 := HB5.out.nd.upc hkp2
          rw [E1.out] at m5
          obtain ⟨x0, x1, x2, x3⟩ := HB5.out.tb.all
          go_wp2_with fail
          refine (HB5.out.s.paint (by rw [LB.out]; exact hl1) ((has_len LB.out).2 HX.out) false).mono ?_
          rintro e' wq5 ⟨vq5, rfl, sq5⟩
          rw [E3.out.1] at sq5 ⊢
          obtain ⟨aq5, cq5, rfl, -, -⟩ := sq5.nd.len
          have SQ5 := Lib.hid sq5
          clear sq5
          go_wp2_with fail
          refine (SQ5.out.paint (by rw [L3.out.1]; exact hl1) ((has_len L3.out.1).2 HG.out) true).mono ?_
          rintro e' wq6 ⟨vq6, rfl, sq6⟩
          rw [E3.out.2.1] at sq6 ⊢
          obtain ⟨aq6, cq6, rfl, -, -⟩ := sq6.nd.len
          have SQ6 := Lib.hid sq6
          clear sq6
          have HB8 := Lib.hid (HB5.out.st SQ6.out (L3.out.2.1.trans LB.out.symm))
          obtain ⟨y0, y1, y2, y3⟩ := HB5.out.stc SQ6.out
          clear x0 x1 x2 x3 SQ5 HB5
          go_upto_region 14 with fail
          clear y0 y1 y2 y3
          generalize (wq6.setCell ⟨W.heap.size, 0, none⟩ (.int .i64 t4.root)).setCell ⟨W.heap.size, 1, none⟩ (.slice aq6 t4.ns.length cq6) = w9 at HB8 ⊢
          obtain ⟨x0, x1, x2, x3⟩ := HB8.out.tb.all
          go_wp2_with fail
          refine (HB8.out.s.turn (by rw [L3.out.2.1]; exact hl1) (!s) HTT.out).mono ?_
          rintro e' wq7 ⟨vq7, rfl, sq7⟩
          rw [E3.out.2.2] at sq7 ⊢
          obtain ⟨aq7, cq7, rfl, -, -⟩ := sq7.nd.len
          have SQ7 := Lib.hid sq7
          clear sq7
          have HB9 := Lib.hid (HB8.out.st SQ7.out (L3.out.2.2.trans L3.out.2.1.symm))
          obtain ⟨y0, y1, y2, y3⟩ := HB8.out.stc SQ7.out
          clear x0 x1 x2 x3  HB8
          go_wp2
          go_roundg m
          case measure => have := HMN.out; omega
          case rel => exact ⟨t5, _, _, rfl, Lib.hid ⟨HB9.out, L3.out.2.2.trans HLN.out, HN.out⟩⟩
end Go.Proofs.Ytgjacmkedgbneaa

namespace Go.Proofs.Ytgjacmkedgbneaa
open Go.RowKit Go.Sort Ky Wd Tn Tr

/-- A node that has just come, as the document makes it. -/
def nRef (v : Int) : N := ⟨true, true, v, -1, -1, -1⟩
/-- What its Up was, makes no difference once it hangs. -/
theorem hang_new {t : T} {i : Int} (hi : t.has i) (u : Int) (s : Bool) (v : Int) : (t.put i (nRef v)).hang u s i = (t.put i (nNew v)).hang u s i := by
  have hlt : i.toNat < t.ns.length := by unfold T.has at hi; omega
  have hne : i ≠ -1 := has_ne hi
  unfold T.hang T.setKid T.setUp T.put T.nd
  rw [if_neg hne, if_neg hne]
  by_cases hu : u = -1
  · rw [if_pos hu, if_pos hu]
    simp [List.getD, hlt, nRef, nNew, N.setUp]
  · rw [if_neg hu, if_neg hu]
    by_cases hui : u.toNat = i.toNat
    · simp [List.getD, hlt, nRef, nNew, N.setUp, hui, N.setKid]
      cases s <;> simp
    · have h1 : i.toNat ≠ u.toNat := fun h => hui h.symm
      simp only [List.getD, List.getElem?_set, hlt, hui, h1, if_true, if_false]
      simp [List.set_comm _ _ hui, nRef, nNew, N.setUp]
/-- Insert's boxes: the tree, the key, the result. -/
structure Iy (W w : World) (r : Int) (v : Value) (k : K) : Prop where
  tb : Tb w W.heap.size r v 24
  kb : Kb w (W.heap.size + 1) k
  rb : Tb w (W.heap.size + 2) 0 (.slice none 0 0) 24
  bl : Below W.heap.size W w
section
variable {W w w' : World} {r : Int} {v : Value} {k : K}
theorem Iy.below (h : Iy W w r v k) (hb : Below w.heap.size w w') : Iy W w' r v k := ⟨h.tb.below hb h.tb.lt, h.kb.below hb h.kb.lt, h.rb.below hb h.rb.lt, h.bl.trans (hb.mono h.bl.size)⟩
theorem Iy.gr (h : Iy W w r v k) (hg : Gr w w') : Iy W w' r v k := h.below hg.below
theorem Iy.le (h : Iy W w r v k) : W.heap.size + 3 ≤ w.heap.size := h.rb.lt
theorem Iy.other (h : Iy W w r v k) {q o : Nat} (hq : W.heap.size + 3 ≤ q) (x : Value) : Iy W (w.setCell ⟨q, o, none⟩ x) r v k :=
  ⟨h.tb.other (by show W.heap.size ≠ q; omega), h.kb.other (by omega), h.rb.other (by show W.heap.size + 2 ≠ q; omega), h.bl.setCell (p := ⟨q, o, none⟩) (by show W.heap.size ≤ q; omega) x⟩
theorem Iy.start (W : World) (r : Int) (v : Value) (k : K) : Iy W (((W.alloc (.cells #[.int .i64 r, v] 24)).alloc (.cells #[.int .u64 k.1, .int .i64 k.2] 27)).alloc (.cells #[.int .i64 0, .slice none 0 0] 24)) r v k := by
  have s1 : (W.alloc (.cells #[.int .i64 r, v] 24)).heap.size = W.heap.size + 1 := by simp
  have s2 : ((W.alloc (.cells #[.int .i64 r, v] 24)).alloc (.cells #[.int .u64 k.1, .int .i64 k.2] 27)).heap.size = W.heap.size + 2 := by simp
  have HK2 := Kb.new (W.alloc (.cells #[.int .i64 r, v] 24)) k
  rw [s1] at HK2
  have HR3 := Tb.new ((W.alloc (.cells #[.int .i64 r, v] 24)).alloc (.cells #[.int .u64 k.1, .int .i64 k.2] 27)) 0 (.slice none 0 0) 24
  rw [s2] at HR3
  have HT := Tb.new W r v 24
  have HT2 := (HT.below (Gr.alloc _ (.cells #[.int .u64 k.1, .int .i64 k.2] 27)).below HT.lt)
  exact ⟨HT2.below (Gr.alloc _ _).below HT2.lt, HK2.gr (Gr.alloc _ _), HR3, (((Below.refl _ _).alloc (Nat.le_refl _) _).alloc (by simp) _).alloc (by simp; omega) _⟩
theorem Iy.store (h : Iy W w r v k) (r' : Int) (v' : Value) : Iy W ((w.setCell ⟨W.heap.size, 0, none⟩ (.int .i64 r')).setCell ⟨W.heap.size, 1, none⟩ v') r' v' k :=
  ⟨h.tb.store _ _, (h.kb.other (by omega)).other (by omega), (h.rb.other (by show W.heap.size + 2 ≠ W.heap.size; omega)).other (by show W.heap.size + 2 ≠ W.heap.size; omega), (h.bl.setCell (p := ⟨W.heap.size, 0, none⟩) (Nat.le_refl _) _).setCell (p := ⟨W.heap.size, 1, none⟩) (Nat.le_refl _) _⟩
/-- The result is stored: what is told with an error. -/
theorem Iy.err (h : Iy W w r v k) : Tb ((w.setCell ⟨W.heap.size + 2, 0, none⟩ (.int .i64 0)).setCell ⟨W.heap.size + 2, 1, none⟩ (.slice none 0 0)) (W.heap.size + 2) 0 (.slice none 0 0) 24 ∧ Below W.heap.size W ((w.setCell ⟨W.heap.size + 2, 0, none⟩ (.int .i64 0)).setCell ⟨W.heap.size + 2, 1, none⟩ (.slice none 0 0)) :=
  ⟨h.rb.store _ _, (h.bl.setCell (p := ⟨W.heap.size + 2, 0, none⟩) (by show W.heap.size ≤ W.heap.size + 2; omega) _).setCell (p := ⟨W.heap.size + 2, 1, none⟩) (by show W.heap.size ≤ W.heap.size + 2; omega) _⟩
end
/-- What a call tells that tells a tree, and a number. -/
def Ie (W : World) (t : T) (e : Int) (en : Ending) (w' : World) : Prop := (∃ v', en = .returned (.tuple #[.agg #[.int .i64 t.root, v'], .int .i64 e]) ∧ Nds w' v' t.ns) ∧ Below W.heap.size W w'
theorem right_bool (m : Int) (t : T) : ∃ r : Bool, (r = true ↔ RightP m t) := by
  by_cases h : RightP m t
  · exact ⟨true, by simp [h]⟩
  · exact ⟨false, by simp [h]⟩

set_option maxHeartbeats 4000000 in
set_option maxRecDepth 100000 in
theorem rInsert_order {W : World} {v : Value} {t : T} {m : Int} {k : K} (hN : Nds W v t.ns) (h : ¬ RightP m t) :
    Calls Try.prog 12 #[.agg #[.int .i64 t.root, v], .int .u64 m, .agg #[.int .u64 k.1, .int .i64 k.2]] W (Ie W ⟨0, []⟩ 4) := by
  obtain ⟨a, cap, rfl, -, -⟩ := hN.len
  have HY := Lib.hid (Iy.start W t.root (.slice a t.ns.length cap) k)
  have HN := Lib.hid hN
  have HRB : Hid (∀ X, Nds X (.slice a t.ns.length cap) t.ns → Calls Try.prog 19 #[.agg #[.int .i64 t.root, .slice a t.ns.length cap], .int .u64 m] X fun e w' => e = .returned (.bool false) ∧ Below X.heap.size X w') := Lib.hid (fun X hX => rRight_at hX m false (by simp [h]))
  clear hN h
  go_enter Try.func12, Try.ntmps12
  go_upto_region 1 with fail
  generalize ((W.alloc (.cells #[.int .i64 t.root, .slice a t.ns.length cap] 24)).alloc (.cells #[.int .u64 k.1, .int .i64 k.2] 27)).alloc (.cells #[.int .i64 0, .slice none 0 0] 24) = w1 at HY ⊢
  obtain ⟨x0, x1, -, -⟩ := HY.out.tb.all
  go_wp2_with fail
  refine (HRB.out _ (HN.out.below HY.out.bl)).mono ?_
  rintro e' w2 ⟨rfl, hb⟩
  have HY2 := Lib.hid (HY.out.below hb)
  clear x0 x1 hb HY HRB
  obtain ⟨y0, y1, y2, y3⟩ := HY2.out.rb.all
  have HF := Lib.hid HY2.out.err
  go_wp2
  obtain ⟨z0, z1, -, -⟩ := HF.out.1.all
  exact bodyPost_ret (v := .tuple #[.agg #[.int .i64 0, .slice none 0 0], .int .i64 4]) (by simp [results, Try.results12, go_sem, z0, z1]) rfl ⟨⟨.slice none 0 0, rfl, nil_nds _⟩, HF.out.2⟩

set_option maxHeartbeats 4000000 in
set_option maxRecDepth 100000 in
theorem rInsert_arg {W : World} {v : Value} {t : T} {m : Int} {k : K} (hN : Nds W v t.ns) (h : RightP m t) (hk : ¬ t.has k.2 ∨ (t.nd k.2).inn = true) :
    Calls Try.prog 12 #[.agg #[.int .i64 t.root, v], .int .u64 m, .agg #[.int .u64 k.1, .int .i64 k.2]] W (Ie W ⟨0, []⟩ 1) := by
  obtain ⟨a, cap, rfl, hl1, hl2⟩ := hN.len
  have HY := Lib.hid (Iy.start W t.root (.slice a t.ns.length cap) k)
  have HN := Lib.hid hN
  have HRB : Hid (∀ X, Nds X (.slice a t.ns.length cap) t.ns → Calls Try.prog 19 #[.agg #[.int .i64 t.root, .slice a t.ns.length cap], .int .u64 m] X fun e w' => e = .returned (.bool true) ∧ Below X.heap.size X w') := Lib.hid (fun X hX => rRight_at hX m true (by simp [h]))
  have HK := Lib.hid hk
  unfold maxLen at hl2
  clear hN h hk
  obtain ⟨k1, k2⟩ := k
  simp only at HY HK ⊢
  by_cases hh : t.has k2
  · obtain ⟨j, rfl, hj⟩ := has_nat hh
    have hin : (t.nd j).inn = true := HK.out.resolve_left (fun h => h hh)
    have HIN := Lib.hid hin
    have hj1 : (j : Int) < t.ns.length := by omega
    obtain ⟨nb, off, cap', he, hc1, hc2, -⟩ := HN.out.at hj
    simp only [Value.slice.injEq] at he
    obtain ⟨rfl, -, rfl⟩ := he
    clear hin hh HK
    go_enter Try.func12, Try.ntmps12
    go_upto_region 1 with fail
    generalize ((W.alloc (.cells #[.int .i64 t.root, .slice (some ⟨nb, off, none⟩) t.ns.length cap] 24)).alloc (.cells #[.int .u64 k1, .int .i64 j] 27)).alloc (.cells #[.int .i64 0, .slice none 0 0] 24) = w1 at HY ⊢
    obtain ⟨x0, x1, -, -⟩ := HY.out.tb.all
    go_wp2_with fail
    refine (HRB.out _ (HN.out.below HY.out.bl)).mono ?_
    rintro e' w2 ⟨rfl, hb⟩
    have HY2 := Lib.hid (HY.out.below hb)
    clear x0 x1 hb HY HRB
    obtain ⟨x0, x1, -, -⟩ := HY2.out.tb.all
    obtain ⟨c0, c1, -, -, -⟩ := HY2.out.kb.all
    have hnc := (HN.out.below HY2.out.bl).nc hj
    have HND : Hid (t.ns.getD j nE = t.nd j) := Lib.hid (by unfold T.nd; rw [Int.toNat_natCast])
    rw [HND.out] at hnc
    have m0 := hnc.1
    rw [HIN.out] at m0
    obtain ⟨y0, y1, y2, y3⟩ := HY2.out.rb.all
    have HF := Lib.hid HY2.out.err
    clear hnc
    go_wp2
    obtain ⟨z0, z1, -, -⟩ := HF.out.1.all
    exact bodyPost_ret (v := .tuple #[.agg #[.int .i64 0, .slice none 0 0], .int .i64 1]) (by simp [results, Try.results12, go_sem, z0, z1]) rfl ⟨⟨.slice none 0 0, rfl, nil_nds _⟩, HF.out.2⟩
  · unfold T.has at hh
    clear HK
    go_enter Try.func12, Try.ntmps12
    go_upto_region 1 with fail
    generalize ((W.alloc (.cells #[.int .i64 t.root, .slice a t.ns.length cap] 24)).alloc (.cells #[.int .u64 k1, .int .i64 k2] 27)).alloc (.cells #[.int .i64 0, .slice none 0 0] 24) = w1 at HY ⊢
    obtain ⟨x0, x1, -, -⟩ := HY.out.tb.all
    go_wp2_with fail
    refine (HRB.out _ (HN.out.below HY.out.bl)).mono ?_
    rintro e' w2 ⟨rfl, hb⟩
    have HY2 := Lib.hid (HY.out.below hb)
    clear x0 x1 hb HY HRB
    obtain ⟨x0, x1, -, -⟩ := HY2.out.tb.all
    obtain ⟨c0, c1, -, -, -⟩ := HY2.out.kb.all
    obtain ⟨y0, y1, y2, y3⟩ := HY2.out.rb.all
    have HF := Lib.hid HY2.out.err
    by_cases hx : k2 < 0
    · go_wp2
      obtain ⟨z0, z1, -, -⟩ := HF.out.1.all
      exact bodyPost_ret (v := .tuple #[.agg #[.int .i64 0, .slice none 0 0], .int .i64 1]) (by simp [results, Try.results12, go_sem, z0, z1]) rfl ⟨⟨.slice none 0 0, rfl, nil_nds _⟩, HF.out.2⟩
    · have hx2 : (t.ns.length : Int) ≤ k2 := by omega
      go_wp2
      obtain ⟨z0, z1, -, -⟩ := HF.out.1.all
      exact bodyPost_ret (v := .tuple #[.agg #[.int .i64 0, .slice none 0 0], .int .i64 1]) (by simp [results, Try.results12, go_sem, z0, z1]) rfl ⟨⟨.slice none 0 0, rfl, nil_nds _⟩, HF.out.2⟩

/-- A slice's block is none from a bound on below another. -/
theorem Off.of {B q : Nat} {v v' : Value} {l l' : List N} (h : v' = v ∨ Fresh B v') (hq : q < B) (ho : Off q v l) (hl : l' ≠ [] → l ≠ []) : Off q v' l' := by
  rcases h with rfl | hf
  · exact fun hn => ho (hl hn)
  · intro _ a n c e
    have := hf a n c e
    omega
theorem ne_nil_len {l l' : List N} (h : l'.length = l.length) : l' ≠ [] → l ≠ [] := fun h1 h2 => h1 (List.eq_nil_of_length_eq_zero (by rw [h, h2]; rfl))

set_option maxHeartbeats 8000000 in
set_option maxRecDepth 100000 in
theorem rInsert_done {W : World} {v : Value} {t t' : T} {m : Int} {k : K} (hN : Nds W v t.ns) (hkU : U k.1) (h : RightP m t) (hk : t.has k.2) (hi : (t.nd k.2).inn = false) {n n2 : Nat} {u : Int} {s : Bool}
    (hd : Down m k t n t.root (-1) false u s) (hm : Mend n2 ((t.put k.2 (nNew k.1)).hang u s k.2) k.2 t') :
    Calls Try.prog 12 #[.agg #[.int .i64 t.root, v], .int .u64 m, .agg #[.int .u64 k.1, .int .i64 k.2]] W (Ie W t' 0) := by
  obtain ⟨k1, k2⟩ := k
  simp only at hkU hk hi hm ⊢
  rw [← hang_new hk] at hm
  have hl : t.ns.length ≤ 1000 := by obtain ⟨b, hb, -⟩ := h; have := hb.len; omega
  obtain ⟨j, rfl, hj⟩ := has_nat hk
  obtain ⟨T1, hT1⟩ : ∃ T1, t.put j (nRef k1) = T1 := ⟨_, rfl⟩
  obtain ⟨T2, hT2⟩ : ∃ T2, T1.hang u s j = T2 := ⟨_, rfl⟩
  rw [hT1, hT2] at hm
  have HT1 := Lib.hid hT1
  have HT2 := Lib.hid hT2
  have L1 : Hid (T1.ns.length = t.ns.length) := Lib.hid (by rw [← hT1, put_len])
  have L2 : Hid (T2.ns.length = t.ns.length) := Lib.hid (by rw [← hT2, hang_len]; exact L1.out)
  have L3 : Hid (t'.ns.length = t.ns.length) := Lib.hid (by rw [hm.len]; exact L2.out)
  obtain ⟨nb, off, cap, rfl, hl1, hl2, -⟩ := hN.at hj
  have HY := Lib.hid (Iy.start W t.root (.slice (some ⟨nb, off, none⟩) t.ns.length cap) (k1, (j : Int)))
  have HN := Lib.hid hN
  have HD := Lib.hid hd
  have HM := Lib.hid hm
  have HKU := Lib.hid hkU
  have HX := Lib.hid hk
  have HIN := Lib.hid hi
  have HOU := Lib.hid hd.last
  have HRB : Hid (∀ X, Nds X (.slice (some ⟨nb, off, none⟩) t.ns.length cap) t.ns → Calls Try.prog 19 #[.agg #[.int .i64 t.root, .slice (some ⟨nb, off, none⟩) t.ns.length cap], .int .u64 m] X fun e w' => e = .returned (.bool true) ∧ Below X.heap.size X w') := Lib.hid (fun X hX => rRight_at hX m true (by simp [h]))
  have hj1 : (j : Int) < t.ns.length := by omega
  unfold maxLen at hl2
  clear hN h hk hi hd hm hkU hT1 hT2
  simp only at HY
  go_enter Try.func12, Try.ntmps12
  go_upto_region 1 with fail
  generalize ((W.alloc (.cells #[.int .i64 t.root, .slice (some ⟨nb, off, none⟩) t.ns.length cap] 24)).alloc (.cells #[.int .u64 k1, .int .i64 j] 27)).alloc (.cells #[.int .i64 0, .slice none 0 0] 24) = w1 at HY ⊢
  obtain ⟨x0, x1, -, -⟩ := HY.out.tb.all
  go_wp2_with fail
  refine (HRB.out _ (HN.out.below HY.out.bl)).mono ?_
  rintro e' w2 ⟨rfl, hb⟩
  have HY2 := Lib.hid (HY.out.below hb)
  clear x0 x1 hb HY HRB
  obtain ⟨x0, x1, -, -⟩ := HY2.out.tb.all
  obtain ⟨c0, c1, -, -, -⟩ := HY2.out.kb.all
  have hnc := (HN.out.below HY2.out.bl).nc hj
  have HND : Hid (t.ns.getD j nE = t.nd j) := Lib.hid (by unfold T.nd; rw [Int.toNat_natCast])
  rw [HND.out] at hnc
  have m0 := hnc.1
  rw [HIN.out] at m0
  clear hnc
  simp only at c0 c1
  have hj2 : ¬ t.ns.length ≤ j := by omega
  go_wp2_with fail
  clear x0 x1 c0 c1 m0
  go_loopg [8, 9, 10] n (fun g u1 s1 x1 wr => ∃ (uu : Int) (ss : Bool) (xx : Int), u1 = .int .i64 uu ∧ s1 = .int .i64 (sI ss) ∧ x1 = .int .i64 xx ∧ Hid (Iy W wr t.root (.slice (some ⟨nb, off, none⟩) t.ns.length cap) (k1, (j : Int)) ∧ Down m (k1, (j : Int)) t g xx uu ss u s))
  case atStart => exact ⟨-1, false, t.root, rfl, rfl, rfl, Lib.hid ⟨HY2.out, HD.out⟩⟩
  case round =>
    obtain ⟨uu, ss, xx, rfl, rfl, rfl, HR⟩ := hrel
    clear HY2 HD
    have HY := Lib.hid HR.out.1
    rcases HR.out.2.parts with ⟨rfl, rfl, rfl, -⟩ | ⟨g', hg', hxx, hrest⟩
    · clear HR
      have HEM := Lib.hid (rEmpty_at wr)
      go_wp2_with fail
      refine HEM.out.mono ?_
      rintro e' w3 ⟨rfl, hg3⟩
      have HY3 := Lib.hid (HY.out.gr hg3)
      have HNF : Hid (Nb (w3.alloc (.cells #[.bool false, .bool false, .int .u64 0, .int .i64 (-1), .int .i64 (-1), .int .i64 (-1)] 57)) w3.heap.size [nE]) := Lib.hid (Nb.fresh w3 nE)
      have HY4 := Lib.hid (HY3.out.gr (Gr.alloc w3 (.cells #[.bool false, .bool false, .int .u64 0, .int .i64 (-1), .int .i64 (-1), .int .i64 (-1)] 57)))
      have HQ : Hid (W.heap.size + 3 ≤ w3.heap.size) := Lib.hid HY3.out.le
      have HQ4 : Hid (w3.heap.size < (w3.alloc (.cells #[.bool false, .bool false, .int .u64 0, .int .i64 (-1), .int .i64 (-1), .int .i64 (-1)] 57)).heap.size) := Lib.hid (by simp)
      clear hg3 HEM HY HY3
      go_upto_region 15 with fail
      generalize w3.alloc (.cells #[.bool false, .bool false, .int .u64 0, .int .i64 (-1), .int .i64 (-1), .int .i64 (-1)] 57) = w4 at HNF HY4 HQ4 ⊢
      generalize w3.heap.size = q at HNF HQ HQ4 ⊢
      obtain ⟨p0, p1, p2, p3, p4, p5⟩ := HNF.out.six
      have fr := HNF.out.frozen 0
      have HNF5 := Lib.hid (HNF.out.fld ⟨true, false, 0, -1, -1, -1⟩ 0 (by omega) (.bool true) rfl)
      have HY5 := Lib.hid (HY4.out.other (q := q) (o := 0) HQ.out (.bool true))
      simp only [nE] at p0 p1 p2 p3 p4 p5
      have HQ5 : Hid (q < (w4.setCell ⟨q, 0, none⟩ (.bool true)).heap.size) := Lib.hid (by rw [World.size_setCell]; exact HQ4.out)
      go_upto_region 16 with fail
      clear p0 p1 p2 p3 p4 p5 fr HNF HY4 HQ4
      generalize w4.setCell ⟨q, 0, none⟩ (.bool true) = w5 at HNF5 HY5 HQ5 ⊢
      obtain ⟨p0, p1, p2, p3, p4, p5⟩ := HNF5.out.six
      have fr := HNF5.out.frozen 1
      have HNF6 := Lib.hid (HNF5.out.fld ⟨true, true, 0, -1, -1, -1⟩ 1 (by omega) (.bool true) rfl)
      have HY6 := Lib.hid (HY5.out.other (q := q) (o := 1) HQ.out (.bool true))
      have HQ6 : Hid (q < (w5.setCell ⟨q, 1, none⟩ (.bool true)).heap.size) := Lib.hid (by rw [World.size_setCell]; exact HQ5.out)
      go_upto_region 17 with fail
      clear p0 p1 p2 p3 p4 p5 fr HNF5 HY5 HQ5
      generalize w5.setCell ⟨q, 1, none⟩ (.bool true) = w6 at HNF6 HY6 HQ6 ⊢
      obtain ⟨p0, p1, p2, p3, p4, p5⟩ := HNF6.out.six
      have fr := HNF6.out.frozen 2
      have HNF7 : Hid (Nb (w6.setCell ⟨q, 2, none⟩ (.int .u64 k1)) q [nRef k1]) := Lib.hid (HNF6.out.fld ⟨true, true, k1, -1, -1, -1⟩ 2 (by omega) (.int .u64 k1) rfl)
      have HY7 := Lib.hid (HY6.out.other (q := q) (o := 2) HQ.out (.int .u64 k1))
      have HQ7 : Hid (q < (w6.setCell ⟨q, 2, none⟩ (.int .u64 k1)).heap.size) := Lib.hid (by rw [World.size_setCell]; exact HQ6.out)
      obtain ⟨c0, c1, -, -, -⟩ := HY6.out.kb.all
      simp only at c0 c1
      go_upto_region 18 with fail
      clear p0 p1 p2 p3 p4 p5 fr c0 c1 HNF6 HY6 HQ6
      generalize w6.setCell ⟨q, 2, none⟩ (.int .u64 k1) = w7 at HNF7 HY7 HQ7 ⊢
      have HGS : Hid (∀ X, Below w7.heap.size w7 X → Iy W X t.root (.slice (some ⟨nb, off, none⟩) t.ns.length cap) (k1, (j : Int)) ∧ Nb X q [nRef k1] ∧ Nds X (.slice (some ⟨nb, off, none⟩) t.ns.length cap) t.ns) := Lib.hid (fun X hX => ⟨HY7.out.below hX, HNF7.out.below hX HQ7.out, HN.out.below (HY7.out.below hX).bl⟩)
      have HGC : Hid (∀ X, Below w7.heap.size w7 X → X.cell? ⟨W.heap.size, 0, none⟩ = some (.int .i64 t.root) ∧ X.cell? ⟨W.heap.size, 1, none⟩ = some (.slice (some ⟨nb, off, none⟩) t.ns.length cap) ∧ X.frozen? ⟨W.heap.size, 0, none⟩ = false ∧ X.frozen? ⟨W.heap.size, 1, none⟩ = false ∧ X.cell? ⟨W.heap.size + 1, 1, none⟩ = some (.int .i64 j)) := Lib.hid (fun X hX => ⟨(HGS.out X hX).1.tb.all.1, (HGS.out X hX).1.tb.all.2.1, (HGS.out X hX).1.tb.all.2.2.1, (HGS.out X hX).1.tb.all.2.2.2, (HGS.out X hX).1.kb.all.2.1⟩)
      have HD7 : Hid (Below w7.heap.size w7 w7.drew) := Lib.hid (Below.refl _ _).drew
      obtain ⟨x0, x1, x2, x3, x4⟩ := HGC.out _ HD7.out
      obtain ⟨p0, p1, p2, p3, p4, p5⟩ := (HGS.out _ HD7.out).2.1.six
      simp only [nRef] at p0 p1 p2 p3 p4 p5
      have HS7 : Hid (St w7.drew (.slice (some ⟨nb, off, none⟩) t.ns.length cap) t w7.drew (.slice (some ⟨nb, off, none⟩) t.ns.length cap)) := Lib.hid (.refl (HGS.out _ HD7.out).2.2)
      have HPU : Hid (Calls Try.prog 40 #[.agg #[.int .i64 t.root, .slice (some ⟨nb, off, none⟩) t.ns.length cap], .int .i64 j, .agg #[.bool true, .bool true, .int .u64 k1, .int .i64 (-1), .int .i64 (-1), .int .i64 (-1)]] w7.drew (Rs w7.drew (.slice (some ⟨nb, off, none⟩) t.ns.length cap) T1)) := Lib.hid (by
        have := HS7.out.put hl HX.out (nRef k1) HKU.out
        rw [HT1.out] at this
        exact this)
      have HHA : Hid (∀ X vX, St w7.drew (.slice (some ⟨nb, off, none⟩) t.ns.length cap) T1 X vX → Calls Try.prog 39 #[.agg #[.int .i64 T1.root, vX], .int .i64 u, .int .i64 (sI s), .int .i64 j] X (Rs w7.drew (.slice (some ⟨nb, off, none⟩) t.ns.length cap) T2)) := Lib.hid (fun X vX hX => by
        have := hX.hang (by rw [L1.out]; exact hl) ((ok_len L1.out).2 HOU.out) s (.inr ((has_len L1.out).2 HX.out))
        rw [HT2.out] at this
        exact this)
      have HBL : Hid (∀ X vX tX, St w7.drew (.slice (some ⟨nb, off, none⟩) t.ns.length cap) tX X vX → Below w7.heap.size w7 X) := Lib.hid (fun X vX tX hX => HD7.out.trans hX.bl)
      have HLE : Hid (W.heap.size + 3 ≤ w7.drew.heap.size) := Lib.hid HY7.out.le
      have HFIN : Hid (∀ Y a9 cp9, St w7.drew (.slice (some ⟨nb, off, none⟩) t.ns.length cap) T2 Y (.slice a9 T2.ns.length cp9) → Iy W ((Y.setCell ⟨W.heap.size, 0, none⟩ (.int .i64 T2.root)).setCell ⟨W.heap.size, 1, none⟩ (.slice a9 T2.ns.length cp9)) T2.root (.slice a9 T2.ns.length cp9) (k1, (j : Int)) ∧ Nds ((Y.setCell ⟨W.heap.size, 0, none⟩ (.int .i64 T2.root)).setCell ⟨W.heap.size, 1, none⟩ (.slice a9 T2.ns.length cp9)) (.slice a9 T2.ns.length cp9) T2.ns ∧ ∀ q, W.heap.size ≤ q → q < W.heap.size + 3 → Off q (.slice a9 T2.ns.length cp9) T2.ns) := Lib.hid (fun Y a9 cp9 s9 => by
        have HO9 : ∀ q, W.heap.size ≤ q → q < W.heap.size + 3 → Off q (.slice a9 T2.ns.length cp9) T2.ns := fun q h1 h2 => Off.of s9.dj (Nat.lt_of_lt_of_le h2 HLE.out) (HN.out.offGe h1) (ne_nil_len L2.out)
        exact ⟨(HGS.out _ (HBL.out _ _ _ s9)).1.store T2.root (.slice a9 T2.ns.length cp9), (s9.nd.other2 (q := ⟨W.heap.size, 0, none⟩) (HO9 W.heap.size (Nat.le_refl _) (by omega)) (.int .i64 T2.root)).other2 (q := ⟨W.heap.size, 1, none⟩) (HO9 W.heap.size (Nat.le_refl _) (by omega)) (.slice a9 T2.ns.length cp9), HO9⟩)
      go_cut [] from 64 to 73 (fun wx => ∃ a9 cp9, Hid (Iy W wx T2.root (.slice a9 T2.ns.length cp9) (k1, (j : Int)) ∧ Nds wx (.slice a9 T2.ns.length cp9) T2.ns ∧ ∀ q, W.heap.size ≤ q → q < W.heap.size + 3 → Off q (.slice a9 T2.ns.length cp9) T2.ns))
      case first =>
        clear HN HY7 HIN HKU HND HM HOU HNF7 HS7 hj2 HQ HQ7 HX L3 hl1 hl2 HD7 HT1 HT2 L1 L2 hl hj hj1 HGS HLE
        go_region_law (first
          | (go_simp; go_at_call 40; refine HPU.out.mono ?_; rintro e' w8 ⟨v8, rfl, s8⟩; obtain ⟨a8, cp8, rfl, -, -⟩ := s8.nd.len; obtain ⟨z0, z1, z2, z3, z4⟩ := HGC.out _ (HBL.out _ _ _ s8))
          | (go_simp; go_at_call 39; refine (HHA.out _ _ s8).mono ?_; rintro e' w9 ⟨v9, rfl, s9⟩; obtain ⟨a9, cp9, rfl, -, -⟩ := s9.nd.len; obtain ⟨y0, y1, y2, y3, y4⟩ := HGC.out _ (HBL.out _ _ _ s9)))
        all_goals
          have HEND := Lib.hid (HFIN.out _ _ _ s9)
          clear x0 x1 x2 x3 x4 p0 p1 p2 p3 p4 p5 y0 y1 y2 y3 y4 HPU HHA HBL HGC HFIN s8 s9
          go_wp2_with fail
          go_meet
          exact ⟨_, _, HEND⟩
      case rest =>
        obtain ⟨a9, cp9, HC⟩ := hcut
        have HY9 := Lib.hid HC.out.1
        have HN9 := Lib.hid HC.out.2.1
        have HO9 := Lib.hid HC.out.2.2
        clear HC x0 x1 x2 x3 x4 p0 p1 p2 p3 p4 p5 HPU HHA HBL HGS HGC HD7 HS7 HNF7 HQ7 HFIN HLE
        obtain ⟨x0, x1, -, -⟩ := HY9.out.tb.all
        obtain ⟨-, c1, -, -, -⟩ := HY9.out.kb.all
        simp only at c1
        go_wp2_with fail
        refine (rmended_at HN9.out (by rw [L2.out]; exact hl) HM.out).mono ?_
        rintro e' w11 ⟨v11, rfl, hN11, hb11, hd11⟩
        obtain ⟨a11, cp11, rfl, -, -⟩ := hN11.len
        have HY11 := Lib.hid (HY9.out.below hb11)
        obtain ⟨y0, y1, y2, y3⟩ := HY11.out.rb.all
        have HO11 : Hid (Off (W.heap.size + 2) (.slice a11 t'.ns.length cp11) t'.ns) := Lib.hid (Off.of hd11 (Nat.lt_of_lt_of_le (by omega) HY9.out.le) (HO9.out (W.heap.size + 2) (by omega) (by omega)) (ne_nil_len (L3.out.trans L2.out.symm)))
        have HF := Lib.hid (And.intro (HY11.out.rb.store t'.root (.slice a11 t'.ns.length cp11)).all (And.intro ((hN11.other2 (q := ⟨W.heap.size + 2, 0, none⟩) HO11.out (.int .i64 t'.root)).other2 (q := ⟨W.heap.size + 2, 1, none⟩) HO11.out (.slice a11 t'.ns.length cp11)) ((HY11.out.bl.setCell (p := ⟨W.heap.size + 2, 0, none⟩) (by show W.heap.size ≤ W.heap.size + 2; omega) (.int .i64 t'.root)).setCell (p := ⟨W.heap.size + 2, 1, none⟩) (by show W.heap.size ≤ W.heap.size + 2; omega) (.slice a11 t'.ns.length cp11))))
        clear x0 x1 c1 hN11 hb11 hd11 HY9 HN9
        go_wp2
        obtain ⟨⟨z0, z1, -, -⟩, hf2, hf3⟩ := HF.out
        exact bodyPost_ret (v := .tuple #[.agg #[.int .i64 t'.root, .slice a11 t'.ns.length cp11], .int .i64 0]) (by simp [results, Try.results12, go_sem, z0, z1]) rfl ⟨⟨_, rfl, hf2⟩, hf3⟩
    · obtain ⟨kx, rfl, hkx⟩ := has_nat hxx
      have HXX := Lib.hid hxx
      have HRS := Lib.hid hrest
      have HGG := Lib.hid hg'
      clear HR hxx hrest hg'
      obtain ⟨x0, x1, -, -⟩ := HY.out.tb.all
      obtain ⟨c0, c1, -, -, -⟩ := HY.out.kb.all
      simp only at c0 c1
      have hkl : (kx : Int) < t.ns.length := by omega
      have hk0 : (0 : Int) ≤ kx := by omega
      have m2 := (HN.out.below HY.out.bl).vc hkx
      have HLS : Hid (Calls Try.prog 37 #[.int .u64 m, .agg #[.int .u64 k1, .int .i64 j], .agg #[.int .u64 (t.nd kx).v, .int .i64 kx]] wr.drew fun e w' => e = .returned (.bool (ltK m (k1, (j : Int)) (t.key kx))) ∧ Gr wr.drew w') := Lib.hid (rless_gr m (k1, (j : Int)) ((t.nd kx).v, (kx : Int)) wr.drew)
      have HG1 : Hid (∀ X, Gr wr.drew X → Iy W X t.root (.slice (some ⟨nb, off, none⟩) t.ns.length cap) (k1, (j : Int))) := Lib.hid (fun X hX => HY.out.gr ((Gr.drew wr 1).trans hX))
      generalize (t.nd kx).v = vx at m2 HLS
      generalize ltK m (k1, (j : Int)) (t.key kx) = r at HLS HRS
      clear HY
      go_wp2_with fail
      go_region_law (first
        | (go_simp; go_at_call 37; refine HLS.out.mono ?_; rintro e' w4 ⟨rfl, hg4⟩))
      all_goals
        have HY4 := Lib.hid (HG1.out w4 hg4)
        clear x0 x1 c0 c1 m2 hg4 HLS HG1
        obtain ⟨x0, x1, -, -⟩ := HY4.out.tb.all
        cases r with
        | true =>
          go_wp2_with fail
          refine (rkid_at (HN.out.below HY4.out.bl) HXX.out false).mono ?_
          rintro e' w5 ⟨rfl, hg5⟩
          have HY5 := Lib.hid (HY4.out.gr hg5)
          clear hg5 x0 x1
          go_wp2
          go_roundg g'
          case measure => have := HGG.out; omega
          case rel => exact ⟨_, false, _, rfl, rfl, rfl, Lib.hid ⟨HY5.out, HRS.out⟩⟩
        | false =>
          go_wp2_with fail
          refine (rkid_at (HN.out.below HY4.out.bl) HXX.out true).mono ?_
          rintro e' w5 ⟨rfl, hg5⟩
          have HY5 := Lib.hid (HY4.out.gr hg5)
          clear hg5 x0 x1
          go_wp2
          go_roundg g'
          case measure => have := HGG.out; omega
          case rel => exact ⟨_, true, _, rfl, rfl, rfl, Lib.hid ⟨HY5.out, HRS.out⟩⟩
theorem rInsert_at {W : World} {v : Value} {t t' : T} {m : Int} {k : K} {e : Int} (hN : Nds W v t.ns) (hkin : Kin k) (hI : Ins m k t t' e) :
    Calls Try.prog 12 #[tv t v, .int .u64 m, .agg #[.int .u64 k.1, .int .i64 k.2]] W (Ie W t' e) := by
  cases hI with
  | order h => exact rInsert_order hN h
  | arg h hk => exact rInsert_arg hN h hk
  | done h hk hi n n2 u s t' hd hm => exact rInsert_done hN hkin.1 h hk hi hd hm
end Go.Proofs.Ytgjacmkedgbneaa

namespace Go.Proofs.Ytgjacmkedgbneaa
open Go.RowKit Go.Sort Ky Wd Tn Tr

theorem Bx.err {W w : World} {v0 v : Value} {t : T} (h : Bx W w v0 t v) : Tb ((w.setCell ⟨W.heap.size + 1, 0, none⟩ (.int .i64 0)).setCell ⟨W.heap.size + 1, 1, none⟩ (.slice none 0 0)) (W.heap.size + 1) 0 (.slice none 0 0) 24 ∧ Below W.heap.size W ((w.setCell ⟨W.heap.size + 1, 0, none⟩ (.int .i64 0)).setCell ⟨W.heap.size + 1, 1, none⟩ (.slice none 0 0)) :=
  ⟨h.rb.store _ _, (h.bl.setCell (p := ⟨W.heap.size + 1, 0, none⟩) (by show W.heap.size ≤ W.heap.size + 1; omega) _).setCell (p := ⟨W.heap.size + 1, 1, none⟩) (by show W.heap.size ≤ W.heap.size + 1; omega) _⟩
theorem Bx.below {W w w' : World} {v0 v : Value} {t : T} (h : Bx W w v0 t v) (hb : Below w.heap.size w w') : Bx W w' v0 t v := ⟨h.tb.below hb h.tb.lt, h.rb.below hb h.rb.lt, h.nd.below hb, h.bl.trans (hb.mono h.bl.size), h.cl, h.dj⟩
theorem Nds.lc {w : World} {nb off n cap : Nat} {t : T} (h : Nds w (.slice (some ⟨nb, off, none⟩) n cap) t.ns) {k : Nat} (hk : k < t.ns.length) : w.cell? ⟨nb, off + k * 6 + 3, none⟩ = some (.int .i64 (t.kid k false)) := by
  have := (h.nc hk).2.2.2.1
  unfold T.kid T.nd
  rw [Int.toNat_natCast]
  exact this
theorem Nds.rc {w : World} {nb off n cap : Nat} {t : T} (h : Nds w (.slice (some ⟨nb, off, none⟩) n cap) t.ns) {k : Nat} (hk : k < t.ns.length) : w.cell? ⟨nb, off + k * 6 + 4, none⟩ = some (.int .i64 (t.kid k true)) := by
  have := (h.nc hk).2.2.2.2.1
  unfold T.kid T.nd
  rw [Int.toNat_natCast]
  exact this

set_option maxHeartbeats 4000000 in
set_option maxRecDepth 100000 in
theorem rDelete_order {W : World} {v : Value} {t : T} {m : Int} {z : Int} (hN : Nds W v t.ns) (h : ¬ RightP m t) :
    Calls Try.prog 14 #[.agg #[.int .i64 t.root, v], .int .u64 m, .int .i64 z] W (Ie W ⟨0, []⟩ 4) := by
  have HB := Lib.hid (Bx.start hN)
  have HRB : Hid (∀ X, Nds X v t.ns → Calls Try.prog 19 #[.agg #[.int .i64 t.root, v], .int .u64 m] X fun e w' => e = .returned (.bool false) ∧ Below X.heap.size X w') := Lib.hid (fun X hX => rRight_at hX m false (by simp [h]))
  obtain ⟨a, cap, rfl, -, -⟩ := hN.len
  clear hN h
  go_enter Try.func14, Try.ntmps14
  go_upto_region 1 with fail
  generalize (W.alloc (.cells #[.int .i64 t.root, .slice a t.ns.length cap] 24)).alloc (.cells #[.int .i64 0, .slice none 0 0] 24) = w1 at HB ⊢
  obtain ⟨x0, x1, x2, x3⟩ := HB.out.tb.all
  go_wp2_with fail
  refine (HRB.out _ HB.out.nd).mono ?_
  rintro e' w2 ⟨rfl, hb⟩
  have HB2 := Lib.hid (HB.out.below hb)
  clear x0 x1 x2 x3 hb HB HRB
  obtain ⟨y0, y1, y2, y3⟩ := HB2.out.rb.all
  have HF := Lib.hid HB2.out.err
  go_wp2
  obtain ⟨z0, z1, -, -⟩ := HF.out.1.all
  exact bodyPost_ret (v := .tuple #[.agg #[.int .i64 0, .slice none 0 0], .int .i64 4]) (by simp [results, Try.results14, go_sem, z0, z1]) rfl ⟨⟨.slice none 0 0, rfl, nil_nds _⟩, HF.out.2⟩

set_option maxHeartbeats 4000000 in
set_option maxRecDepth 100000 in
theorem rDelete_arg {W : World} {v : Value} {t : T} {m : Int} {z : Int} (hN : Nds W v t.ns) (h : RightP m t) (hk : ¬ t.has z) :
    Calls Try.prog 14 #[.agg #[.int .i64 t.root, v], .int .u64 m, .int .i64 z] W (Ie W ⟨0, []⟩ 1) := by
  have HB := Lib.hid (Bx.start hN)
  have HRB : Hid (∀ X, Nds X v t.ns → Calls Try.prog 19 #[.agg #[.int .i64 t.root, v], .int .u64 m] X fun e w' => e = .returned (.bool true) ∧ Below X.heap.size X w') := Lib.hid (fun X hX => rRight_at hX m true (by simp [h]))
  obtain ⟨a, cap, rfl, hl1, hl2⟩ := hN.len
  unfold T.has at hk
  unfold maxLen at hl2
  clear hN h
  go_enter Try.func14, Try.ntmps14
  go_upto_region 1 with fail
  generalize (W.alloc (.cells #[.int .i64 t.root, .slice a t.ns.length cap] 24)).alloc (.cells #[.int .i64 0, .slice none 0 0] 24) = w1 at HB ⊢
  obtain ⟨x0, x1, x2, x3⟩ := HB.out.tb.all
  go_wp2_with fail
  refine (HRB.out _ HB.out.nd).mono ?_
  rintro e' w2 ⟨rfl, hb⟩
  have HB2 := Lib.hid (HB.out.below hb)
  clear x0 x1 x2 x3 hb HB HRB
  obtain ⟨x0, x1, x2, x3⟩ := HB2.out.tb.all
  obtain ⟨y0, y1, y2, y3⟩ := HB2.out.rb.all
  have HF := Lib.hid HB2.out.err
  by_cases hx : z < 0
  · go_wp2
    obtain ⟨z0, z1, -, -⟩ := HF.out.1.all
    exact bodyPost_ret (v := .tuple #[.agg #[.int .i64 0, .slice none 0 0], .int .i64 1]) (by simp [results, Try.results14, go_sem, z0, z1]) rfl ⟨⟨.slice none 0 0, rfl, nil_nds _⟩, HF.out.2⟩
  · have hx2 : (t.ns.length : Int) ≤ z := by omega
    go_wp2
    obtain ⟨z0, z1, -, -⟩ := HF.out.1.all
    exact bodyPost_ret (v := .tuple #[.agg #[.int .i64 0, .slice none 0 0], .int .i64 1]) (by simp [results, Try.results14, go_sem, z0, z1]) rfl ⟨⟨.slice none 0 0, rfl, nil_nds _⟩, HF.out.2⟩

set_option maxHeartbeats 4000000 in
set_option maxRecDepth 100000 in
theorem rDelete_idle {W : World} {v : Value} {t : T} {m : Int} {z : Int} (hN : Nds W v t.ns) (h : RightP m t) (hk : t.has z) (hi : (t.nd z).inn = false) :
    Calls Try.prog 14 #[.agg #[.int .i64 t.root, v], .int .u64 m, .int .i64 z] W (Ie W ⟨0, []⟩ 8) := by
  have HB := Lib.hid (Bx.start hN)
  have HRB : Hid (∀ X, Nds X v t.ns → Calls Try.prog 19 #[.agg #[.int .i64 t.root, v], .int .u64 m] X fun e w' => e = .returned (.bool true) ∧ Below X.heap.size X w') := Lib.hid (fun X hX => rRight_at hX m true (by simp [h]))
  obtain ⟨j, rfl, hj⟩ := has_nat hk
  obtain ⟨nb, off, cap, rfl, hl1, hl2, -⟩ := hN.at hj
  have HND : Hid (t.ns.getD j nE = t.nd j) := Lib.hid (by unfold T.nd; rw [Int.toNat_natCast])
  have HI := Lib.hid hi
  have hj1 : (j : Int) < t.ns.length := by omega
  have hj2 : ¬ t.ns.length ≤ j := by omega
  unfold maxLen at hl2
  clear hN h hk hi
  go_enter Try.func14, Try.ntmps14
  go_upto_region 1 with fail
  generalize (W.alloc (.cells #[.int .i64 t.root, .slice (some ⟨nb, off, none⟩) t.ns.length cap] 24)).alloc (.cells #[.int .i64 0, .slice none 0 0] 24) = w1 at HB ⊢
  obtain ⟨x0, x1, x2, x3⟩ := HB.out.tb.all
  go_wp2_with fail
  refine (HRB.out _ HB.out.nd).mono ?_
  rintro e' w2 ⟨rfl, hb⟩
  have HB2 := Lib.hid (HB.out.below hb)
  clear x0 x1 x2 x3 hb HB HRB
  obtain ⟨x0, x1, x2, x3⟩ := HB2.out.tb.all
  obtain ⟨m0, m1, m2, m3, m4, m5⟩ := HB2.out.nd.nc hj
  rw [HND.out] at m0 m1 m2 m3 m4 m5
  obtain ⟨n, hn⟩ : ∃ n, t.nd j = n := ⟨_, rfl⟩
  rw [hn] at m0 m1 m2 m3 m4 m5 HI
  have HB3 := Lib.hid (HB2.out.gr (Gr.alloc w2 (.cells #[.bool n.inn, .bool n.red, .int .u64 n.v, .int .i64 n.l, .int .i64 n.r, .int .i64 n.u] 57)))
  have HNF := Lib.hid (Nb.fresh w2 n)
  clear hn HND
  go_upto_region 6 with fail
  clear x0 x1 x2 x3 m0 m1 m2 m3 m4 m5 HB2
  generalize w2.alloc (.cells #[.bool n.inn, .bool n.red, .int .u64 n.v, .int .i64 n.l, .int .i64 n.r, .int .i64 n.u] 57) = w3 at HB3 HNF ⊢
  generalize w2.heap.size = q at HNF ⊢
  obtain ⟨n0, -, -, -, -, -⟩ := HNF.out.six
  rw [HI.out] at n0
  obtain ⟨y0, y1, y2, y3⟩ := HB3.out.rb.all
  have HF := Lib.hid HB3.out.err
  go_wp2
  obtain ⟨z0, z1, -, -⟩ := HF.out.1.all
  exact bodyPost_ret (v := .tuple #[.agg #[.int .i64 0, .slice none 0 0], .int .i64 8]) (by simp [results, Try.results14, go_sem, z0, z1]) rfl ⟨⟨.slice none 0 0, rfl, nil_nds _⟩, HF.out.2⟩
end Go.Proofs.Ytgjacmkedgbneaa

namespace Go.Proofs.Ytgjacmkedgbneaa
open Go.RowKit Go.Sort Ky Wd Tn Tr

theorem rout_parts {t t1 : T} {z u : Int} {g s : Bool} (h : Out t z t1 g u s) :
    (t.kid z false = -1 ∧ t.ok (t.kid z true) ∧ t1 = t.hang (t.up z) (t.side z) (t.kid z true) ∧ g = (t.nd z).red ∧ u = t.up z ∧ s = t.side z) ∨
    (t.kid z false ≠ -1 ∧ t.ok (t.kid z false) ∧ t.kid z true = -1 ∧ t1 = t.hang (t.up z) (t.side z) (t.kid z false) ∧ g = (t.nd z).red ∧ u = t.up z ∧ s = t.side z) ∨
    ∃ (n : Nat) (y : Int), t.kid z false ≠ -1 ∧ t.kid z true ≠ -1 ∧ Leftmost t n (t.kid z true) y ∧ t1 = rep5 t z y ∧ g = (t.nd y).red ∧ u = (if t.up y = z then y else t.up y) ∧ s = t.side y := by
  cases h with
  | left hl hr => exact .inl ⟨hl, hr, rfl, rfl, rfl, rfl⟩
  | right hl hl' hr => exact .inr (.inl ⟨hl, hl', hr, rfl, rfl, rfl, rfl⟩)
  | both n y hl hr hm ho => exact .inr (.inr ⟨n, y, hl, hr, hm, rfl, rfl, rfl, rfl⟩)
theorem Bx.stn {W w w1 : World} {v0 v v1 : Value} {t t1 : T} {q : Nat} {n : N} (h : Bx W w v0 t v) (hq : W.heap.size + 2 ≤ q) (hn : Nb w q [n]) (s : St w v t1 w1 v1) (hl : t1.ns.length = t.ns.length) :
    Bx W ((w1.setCell ⟨W.heap.size, 0, none⟩ (.int .i64 t1.root)).setCell ⟨W.heap.size, 1, none⟩ v1) v0 t1 v1 ∧ Nb ((w1.setCell ⟨W.heap.size, 0, none⟩ (.int .i64 t1.root)).setCell ⟨W.heap.size, 1, none⟩ v1) q [n] := by
  refine ⟨h.st s hl, ?_⟩
  have hlt : q < w.heap.size := (Array.getElem?_eq_some_iff.1 hn).1
  exact ((hn.below s.bl hlt).other (a := ⟨W.heap.size, 0, none⟩) (by show q ≠ W.heap.size; omega)).other (a := ⟨W.heap.size, 1, none⟩) (by show q ≠ W.heap.size; omega)

set_option maxHeartbeats 16000000 in
set_option maxRecDepth 100000 in
theorem rDelete_done {W : World} {v : Value} {t t' : T} {m : Int} {z : Int} (hN : Nds W v t.ns) (h : RightP m t) (hk : t.has z) (hi : (t.nd z).inn = true) (hr : Remove t z t') :
    Calls Try.prog 14 #[.agg #[.int .i64 t.root, v], .int .u64 m, .int .i64 z] W (Ie W t' 0) := by
  have HB := Lib.hid (Bx.start hN)
  have HRB : Hid (∀ X, Nds X v t.ns → Calls Try.prog 19 #[.agg #[.int .i64 t.root, v], .int .u64 m] X fun e w' => e = .returned (.bool true) ∧ Below X.heap.size X w') := Lib.hid (fun X hX => rRight_at hX m true (by simp [h]))
  have hl : t.ns.length ≤ 1000 := by obtain ⟨b, hb, -⟩ := h; have := hb.len; omega
  have HTWO : Hid (∀ (n : Nat) (y : Int), t.kid z false ≠ -1 → t.kid z true ≠ -1 → Leftmost t n (t.kid z true) y → Two t z y) := Lib.hid (fun n y h1 h2 h3 => by
    obtain ⟨b, hb, r1, r2, r3⟩ := h
    exact two_of hb hk hi h1 h2 h3 ((plain_iff b).1.1 r3) r1)
  obtain ⟨j, rfl, hj⟩ := has_nat hk
  obtain ⟨nb, off, cap, rfl, hl1, hl2, -⟩ := hN.at hj
  obtain ⟨-, huo, t1, g, u, s, hout, hfin⟩ := hr
  have LO : Hid (t1.ns.length = t.ns.length) := Lib.hid hout.len
  have HOUT := Lib.hid (rout_parts hout)
  obtain ⟨t5, ht5⟩ : ∃ t5, t1.put j nE = t5 := ⟨_, rfl⟩
  rw [ht5] at hfin
  have L5 : Hid (t5.ns.length = t.ns.length) := Lib.hid (by rw [← ht5, put_len]; exact LO.out)
  have HFI := Lib.hid hfin
  have HT5 := Lib.hid ht5
  obtain ⟨sd, hsd⟩ : ∃ sd, t.side j = sd := ⟨_, rfl⟩
  rcases hnd : t.nd j with ⟨ni, nc, nv, nl, nr, nu⟩
  rw [hnd] at hi
  simp only at hi
  subst hi
  have EL : Hid (t.kid j false = nl) := Lib.hid (by unfold T.kid; rw [hnd]; rfl)
  have ER : Hid (t.kid j true = nr) := Lib.hid (by unfold T.kid; rw [hnd]; rfl)
  have EU : Hid (t.up j = nu) := Lib.hid (by unfold T.up; rw [hnd])
  have EC : Hid ((t.nd j).red = nc) := Lib.hid (by rw [hnd])
  have ES := Lib.hid hsd
  have HND : Hid (t.ns.getD j nE = ⟨true, nc, nv, nl, nr, nu⟩) := Lib.hid (by rw [← hnd]; unfold T.nd; rw [Int.toNat_natCast])
  have HUO : Hid (t.ok nu) := Lib.hid (by rw [← EU.out]; exact huo)
  have HX := Lib.hid hk
  rw [EL.out, ER.out, EU.out, EC.out, ES.out] at HOUT
  rw [EL.out, ER.out] at HTWO
  have hj1 : (j : Int) < t.ns.length := by omega
  have hj2 : ¬ t.ns.length ≤ j := by omega
  unfold maxLen at hl2
  clear hN h hk hout hfin ht5 hsd hnd huo
  go_enter Try.func14, Try.ntmps14
  go_upto_region 1 with fail
  generalize (W.alloc (.cells #[.int .i64 t.root, .slice (some ⟨nb, off, none⟩) t.ns.length cap] 24)).alloc (.cells #[.int .i64 0, .slice none 0 0] 24) = w1 at HB ⊢
  obtain ⟨x0, x1, x2, x3⟩ := HB.out.tb.all
  go_wp2_with fail
  refine (HRB.out _ HB.out.nd).mono ?_
  rintro e' w2 ⟨rfl, hb⟩
  have HB2 := Lib.hid (HB.out.below hb)
  clear x0 x1 x2 x3 hb HB HRB
  obtain ⟨x0, x1, x2, x3⟩ := HB2.out.tb.all
  obtain ⟨m0, m1, m2, m3, m4, m5⟩ := HB2.out.nd.nc hj
  rw [HND.out] at m0 m1 m2 m3 m4 m5
  simp only at m0 m1 m2 m3 m4 m5
  have HB3 := Lib.hid (HB2.out.gr (Gr.alloc w2 (.cells #[.bool true, .bool nc, .int .u64 nv, .int .i64 nl, .int .i64 nr, .int .i64 nu] 57)))
  have HNF : Hid (Nb (w2.alloc (.cells #[.bool true, .bool nc, .int .u64 nv, .int .i64 nl, .int .i64 nr, .int .i64 nu] 57)) w2.heap.size [⟨true, nc, nv, nl, nr, nu⟩]) := Lib.hid (Nb.fresh w2 ⟨true, nc, nv, nl, nr, nu⟩)
  have HQ : Hid (W.heap.size + 2 ≤ w2.heap.size) := Lib.hid HB2.out.le
  go_upto_region 6 with fail
  clear x0 x1 x2 x3 m0 m1 m2 m3 m4 m5 HB2
  generalize w2.alloc (.cells #[.bool true, .bool nc, .int .u64 nv, .int .i64 nl, .int .i64 nr, .int .i64 nu] 57) = w3 at HB3 HNF ⊢
  generalize w2.heap.size = q at HNF HQ ⊢
  obtain ⟨n0, n1, -, n3, n4, n5⟩ := HNF.out.six
  simp only at n0 n1 n3 n4 n5
  obtain ⟨x0, x1, x2, x3⟩ := HB3.out.tb.all
  have HSI := Lib.hid (rside_at HB3.out.nd HX.out (by rw [EU.out]; exact HUO.out))
  rw [ES.out] at HSI
  go_wp2_with fail
  refine HSI.out.mono ?_
  rintro e' w4 ⟨rfl, hgg⟩
  have HB4 := Lib.hid (HB3.out.gr hgg)
  have HN4 := Lib.hid (HNF.out.gr hgg)
  clear x0 x1 x2 x3 n0 n1 n3 n4 n5 hgg HB3 HNF HSI
  obtain ⟨n0, n1, -, n3, n4, n5⟩ := HN4.out.six
  simp only at n0 n1 n3 n4 n5
  go_upto_region 12 with fail
  go_cut [53] from 46 to 52 (fun b wx => b = .bool (decide (nl < 0) || decide (nr < 0)) ∧ w4 = wx)
  case first =>
    by_cases hl0 : nl < 0
    · go_wp2_with fail
      go_meet
      exact ⟨by simp [hl0], rfl⟩
    · go_wp2_with fail
      go_meet
      have hl1 : ¬ nl < 0 := by omega
      exact ⟨by simp [hl1], rfl⟩
  case rest =>
    obtain ⟨hb0, hw0⟩ := hcut
    subst hb0 hw0
    go_upto_if 53 with fail
    go_cut [9, 10, 11] from 13 (fun g' p' s' wx => ∃ (tx : T) (ax : Option Addr) (cx : Nat), g' = .bool g ∧ p' = .int .i64 u ∧ s' = .int .i64 (sI s) ∧ Hid (Bx W wx (.slice (some ⟨nb, off, none⟩) t.ns.length cap) tx (.slice ax tx.ns.length cx) ∧ tx.ns.length = t.ns.length ∧ tx.put j nE = t5))
    case first =>
      rcases HOUT.out with ⟨hl0, hok, e1, eg, eu, es⟩ | ⟨hl0, hokl, hr0, e1, eg, eu, es⟩ | ⟨n, y, hl0, hr0, hlm, e1, eg, eu, es⟩
      · subst hl0
        have HE := Lib.hid (And.intro e1 (And.intro eg (And.intro eu es)))
        have HOKK : Hid (t.ok nr) := Lib.hid hok
        have hmax : max (-1) nr = nr := by rcases hok with e | e; (rw [e]; rfl); (have := e.1; omega)
        clear e1 eg eu es HOUT HTWO
        obtain ⟨x0, x1, x2, x3⟩ := HB4.out.tb.all
        go_wp2_with fail
        refine (HB4.out.s.hang hl HUO.out sd HOKK.out).mono ?_
        rintro e' w5 ⟨v5, rfl, s5⟩
        rw [← HE.out.1] at s5 ⊢
        obtain ⟨a5, c5, rfl, -, -⟩ := s5.nd.len
        have HB5 := Lib.hid (HB4.out.st s5 LO.out)
        obtain ⟨y0, y1, y2, y3⟩ := HB4.out.stc s5
        clear x0 x1 x2 x3 n0 n1 n3 n4 n5 s5 HB4 HN4
        go_wp2_with fail
        go_meet
        exact ⟨t1, _, _, by rw [HE.out.2.1], by rw [HE.out.2.2.1], by rw [HE.out.2.2.2], Lib.hid ⟨HB5.out, LO.out, HT5.out⟩⟩
      · subst hr0
        have hl00 : ¬ nl < 0 := by rcases hokl with e | e; exact absurd e hl0; (have := e.1; omega)
        have HE := Lib.hid (And.intro e1 (And.intro eg (And.intro eu es)))
        have HOKK : Hid (t.ok nl) := Lib.hid hokl
        have hmax : max nl (-1) = nl := by omega
        clear e1 eg eu es HOUT HTWO
        obtain ⟨x0, x1, x2, x3⟩ := HB4.out.tb.all
        go_wp2_with fail
        refine (HB4.out.s.hang hl HUO.out sd HOKK.out).mono ?_
        rintro e' w5 ⟨v5, rfl, s5⟩
        rw [← HE.out.1] at s5 ⊢
        obtain ⟨a5, c5, rfl, -, -⟩ := s5.nd.len
        have HB5 := Lib.hid (HB4.out.st s5 LO.out)
        obtain ⟨y0, y1, y2, y3⟩ := HB4.out.stc s5
        clear x0 x1 x2 x3 n0 n1 n3 n4 n5 s5 HB4 HN4
        go_wp2_with fail
        go_meet
        exact ⟨t1, _, _, by rw [HE.out.2.1], by rw [HE.out.2.2.1], by rw [HE.out.2.2.2], Lib.hid ⟨HB5.out, LO.out, HT5.out⟩⟩
      · have h2 := HTWO.out n y hl0 hr0 hlm
        have HE := Lib.hid (And.intro e1 (And.intro eg (And.intro eu es)))
        have H2 := Lib.hid h2
        have hl00 : ¬ nl < 0 := by have e := h2.okL; rw [EL.out] at e; rcases e with e | e; exact absurd e hl0; (have := e.1; omega)
        have hr00 : ¬ nr < 0 := by have e := h2.okR; rw [ER.out] at e; have := e.1; omega
        have HLM := Lib.hid hlm
        clear e1 eg eu es HOUT HTWO h2 hlm
        go_upto_region 15 with fail
        clear n0 n1 n3 n4 n5
        go_loopg [13] n (fun k y1 wr => ∃ y2, y1 = .int .i64 y2 ∧ Hid (Bx W wr (.slice (some ⟨nb, off, none⟩) t.ns.length cap) t (.slice (some ⟨nb, off, none⟩) t.ns.length cap) ∧ Nb wr q [⟨true, nc, nv, nl, nr, nu⟩] ∧ Leftmost t k y2 y))
        case atStart => exact ⟨nr, rfl, Lib.hid ⟨HB4.out, HN4.out, HLM.out⟩⟩
        case round =>
          clear HB4 HN4 HLM
          obtain ⟨y2, rfl, HR⟩ := hrel
          have HB5 := Lib.hid HR.out.1
          have HN5 := Lib.hid HR.out.2.1
          obtain ⟨hy2, hway⟩ := HR.out.2.2.parts
          clear HR
          obtain ⟨ky, rfl, hky⟩ := has_nat hy2
          obtain ⟨x0, x1, x2, x3⟩ := HB5.out.tb.all
          have l3 := HB5.out.nd.lc hky
          have hk1 : (ky : Int) < t.ns.length := by omega
          rcases hway with ⟨hk0, hye⟩ | ⟨hk0, k', hk', hrest⟩
          · rw [hk0] at l3
            subst hye
            clear hk0 hy2
            have HY := Lib.hid H2.out.hy
            have r1 := HB5.out.nd.redc hky
            obtain ⟨n0, n1, -, n3, n4, n5⟩ := HN5.out.six
            simp only at n0 n1 n3 n4 n5
            rcases H2.out.way with hw | hw
            · obtain ⟨w1, w2, w3, w4'⟩ := hw
              have EPL : Hid ((if t.up (ky : Int) = (j : Int) then (ky : Int) else t.up ky) = ky) := Lib.hid (by rw [if_pos w2])
              have ESD : Hid (t.side ky = true) := Lib.hid w3
              have HOL : Hid (t.ok nl) := Lib.hid (by have := H2.out.okL; rw [EL.out] at this; exact this)
              have hnr : nr = ky := by rw [← ER.out]; exact w1.symm
              subst hnr
              have ETD : Hid (∀ (ta tc td : T), t.hang nu sd ky = ta ∧ ta.hang ky false nl = tc ∧ tc.paint ky nc = td → td.put j nE = t5) := Lib.hid (fun ta tc td ⟨ea, ec, ed⟩ => by
                have h1 := rep_near H2.out ⟨w1, w2, w3, w4'⟩
                rw [EU.out, ES.out, EL.out, EC.out, ea, ec, ed] at h1
                rw [← h1, ← HE.out.1]
                exact HT5.out)
              have hne : ((ky : Int) == (ky : Int)) = true := by simp
              clear w1 w2 w3 w4'
              go_upto_region 25 with fail
              clear x0 x1 x2 x3 l3 r1 n0 n1 n3 n4 n5
              obtain ⟨ta, ea⟩ : ∃ ta, t.hang nu sd ky = ta := ⟨_, rfl⟩
              obtain ⟨tc, ec⟩ : ∃ tc, ta.hang ky false nl = tc := ⟨_, rfl⟩
              obtain ⟨td, ed⟩ : ∃ td, tc.paint ky nc = td := ⟨_, rfl⟩
              have LA : Hid (ta.ns.length = t.ns.length ∧ tc.ns.length = t.ns.length ∧ td.ns.length = t.ns.length) := Lib.hid (by rw [← ed, paint_len, ← ec, hang_len, ← ea, hang_len]; exact ⟨(rfl : t.ns.length = t.ns.length), (rfl : t.ns.length = t.ns.length), (rfl : t.ns.length = t.ns.length)⟩)
              have EA := Lib.hid (And.intro ea (And.intro ec ed))
              clear ea ec ed
              go_upto_region 25 with fail
              obtain ⟨x0, x1, x2, x3⟩ := HB5.out.tb.all
              obtain ⟨n0, n1, -, n3, n4, n5⟩ := HN5.out.six
              simp only at n0 n1 n3 n4 n5
              have HSS := Lib.hid (HB5.out.gr (Gr.drew wr 1)).s
              have HND5 := Lib.hid (HN5.out.gr (Gr.drew wr 1))
              have HH1 : Hid (Calls Try.prog 39 #[.agg #[.int .i64 t.root, (.slice (some ⟨nb, off, none⟩) t.ns.length cap)], .int .i64 nu, .int .i64 (sI sd), .int .i64 ky] wr.drew (Rs wr.drew (.slice (some ⟨nb, off, none⟩) t.ns.length cap) ta)) := Lib.hid (by
                have h1 := HSS.out.hang (by rw [(rfl : t.ns.length = t.ns.length)]; exact hl) ((ok_len ((rfl : t.ns.length = t.ns.length))).2 HUO.out) sd (.inr ((has_len ((rfl : t.ns.length = t.ns.length))).2 HY.out))
                rw [EA.out.1] at h1
                exact h1)
              have HH2 : Hid (∀ X vX, St wr.drew (.slice (some ⟨nb, off, none⟩) t.ns.length cap) ta X vX → Calls Try.prog 39 #[.agg #[.int .i64 ta.root, vX], .int .i64 ky, .int .i64 0, .int .i64 nl] X (Rs wr.drew (.slice (some ⟨nb, off, none⟩) t.ns.length cap) tc)) := Lib.hid (fun X vX hX => by
                have h1 := hX.hang (by rw [LA.out.1]; exact hl) (.inr ((has_len LA.out.1).2 HY.out)) false ((ok_len LA.out.1).2 HOL.out)
                rw [EA.out.2.1] at h1
                exact h1)
              have HCL : Hid (∀ X vX tX, St wr.drew (.slice (some ⟨nb, off, none⟩) t.ns.length cap) tX X vX → X.cell? ⟨q, 3, none⟩ = some (.int .i64 nl)) := Lib.hid (fun X vX tX hX => (HND5.out.below hX.bl (Array.getElem?_eq_some_iff.1 HND5.out).1).six.2.2.2.1)
              have HCS : Hid (∀ X vX tX, St wr.drew (.slice (some ⟨nb, off, none⟩) t.ns.length cap) tX X vX → X.cell? ⟨W.heap.size, 0, none⟩ = some (.int .i64 t.root) ∧ X.cell? ⟨W.heap.size, 1, none⟩ = some (.slice (some ⟨nb, off, none⟩) t.ns.length cap) ∧ X.frozen? ⟨W.heap.size, 0, none⟩ = false ∧ X.frozen? ⟨W.heap.size, 1, none⟩ = false) := Lib.hid (fun X vX tX hX => (HB5.out.gr (Gr.drew wr 1)).stc hX)
              have HFN : Hid (∀ X a c, St wr.drew (.slice (some ⟨nb, off, none⟩) t.ns.length cap) tc X (.slice a tc.ns.length c) → Bx W ((X.setCell ⟨W.heap.size, 0, none⟩ (.int .i64 tc.root)).setCell ⟨W.heap.size, 1, none⟩ (.slice a tc.ns.length c)) (.slice (some ⟨nb, off, none⟩) t.ns.length cap) tc (.slice a tc.ns.length c) ∧ Nb ((X.setCell ⟨W.heap.size, 0, none⟩ (.int .i64 tc.root)).setCell ⟨W.heap.size, 1, none⟩ (.slice a tc.ns.length c)) q [⟨true, nc, nv, nl, (ky : Int), nu⟩]) := Lib.hid (fun X a c hX => (HB5.out.gr (Gr.drew wr 1)).stn HQ.out HND5.out hX (LA.out.2.1.trans ((rfl : t.ns.length = t.ns.length)).symm))
              go_cut [] from 109 to 118 (fun wx => ∃ ax cx, Hid (Bx W wx (.slice (some ⟨nb, off, none⟩) t.ns.length cap) tc (.slice ax tc.ns.length cx) ∧ Nb wx q [⟨true, nc, nv, nl, (ky : Int), nu⟩]))
              case first =>
                go_region_law (first
                  | (go_simp; go_at_call 39; refine (HH2.out _ _ s8).mono ?_; rintro e' w9 ⟨v9, rfl, s9⟩; obtain ⟨a9, c9, rfl, -, -⟩ := s9.nd.len; obtain ⟨y0, y1, y2, y3⟩ := HCS.out _ _ _ s9)
                  | (go_simp; go_at_call 39; refine HH1.out.mono ?_; rintro e' w8 ⟨v8, rfl, s8⟩; obtain ⟨a8, c8, rfl, -, -⟩ := s8.nd.len; have z3 := HCL.out _ _ _ s8))
                all_goals
                  have HEND := Lib.hid (HFN.out _ _ _ s9)
                  clear x0 x1 x2 x3 y0 y1 y2 y3 n0 n1 n3 n4 n5 z3 s8 s9 HH1 HH2 HCL HCS HFN
                  go_wp2_with fail
                  go_meet
                  exact ⟨_, _, HEND⟩
              case rest =>
                obtain ⟨a9, c9, HC⟩ := hcut
                have HB9 := Lib.hid HC.out.1
                have HN9 := Lib.hid HC.out.2
                clear HC x0 x1 x2 x3 n0 n1 n3 n4 n5 HH1 HH2 HCL HCS HFN HSS HND5 HB5 HN5
                obtain ⟨x0, x1, x2, x3⟩ := HB9.out.tb.all
                obtain ⟨n0, n1, -, n3, n4, n5⟩ := HN9.out.six
                simp only at n0 n1 n3 n4 n5
                go_wp2_with fail
                refine (HB9.out.s.paint (by rw [LA.out.2.1]; exact hl) ((has_len LA.out.2.1).2 HY.out) nc).mono ?_
                rintro e' w10 ⟨v10, rfl, s10⟩
                rw [EA.out.2.2] at s10 ⊢
                obtain ⟨a10, c10, rfl, -, -⟩ := s10.nd.len
                have HB10 := Lib.hid (HB9.out.st s10 (LA.out.2.2.trans LA.out.2.1.symm))
                obtain ⟨y0, y1, y2, y3⟩ := HB9.out.stc s10
                clear x0 x1 x2 x3 n0 n1 n3 n4 n5 s10 HB9 HN9
                go_wp2_with fail
                go_meet
                exact ⟨td, _, _, by rw [HE.out.2.1], by rw [HE.out.2.2.1, EPL.out], by rw [HE.out.2.2.2, ESD.out]; rfl, Lib.hid ⟨HB10.out, LA.out.2.2, ETD.out ta tc td EA.out⟩⟩
            · obtain ⟨w1, w2, w3, w4', w5'⟩ := hw
              obtain ⟨pu, hpu⟩ : ∃ pu, t.up (ky : Int) = pu := ⟨_, rfl⟩
              obtain ⟨xr, hxr⟩ : ∃ xr, t.kid (ky : Int) true = xr := ⟨_, rfl⟩
              have EPL : Hid ((if t.up (ky : Int) = (j : Int) then (ky : Int) else t.up ky) = pu) := Lib.hid (by rw [if_neg w3, hpu])
              have ESD : Hid (t.side ky = false) := Lib.hid w4'
              have HOL : Hid (t.ok nl) := Lib.hid (by have := H2.out.okL; rw [EL.out] at this; exact this)
              have HOX : Hid (t.ok xr) := Lib.hid (by rw [← hxr]; exact H2.out.okX)
              have HOR : Hid (t.has nr) := Lib.hid (by rw [← ER.out]; exact H2.out.okR)
              have HOP : Hid (t.ok pu) := Lib.hid (by rw [← hpu]; exact .inr w2)
              obtain ⟨tA, eA⟩ : ∃ tA, t.hang pu false xr = tA := ⟨_, rfl⟩
              obtain ⟨tB, eB⟩ : ∃ tB, tA.hang ky true nr = tB := ⟨_, rfl⟩
              have LAB : Hid (tA.ns.length = t.ns.length ∧ tB.ns.length = t.ns.length) := Lib.hid (by rw [← eB, hang_len, ← eA, hang_len]; exact ⟨rfl, rfl⟩)
              have EAB := Lib.hid (And.intro eA eB)
              have ETD : Hid (∀ (ta tc td : T), tB.hang nu sd ky = ta ∧ ta.hang ky false nl = tc ∧ tc.paint ky nc = td → td.put j nE = t5) := Lib.hid (fun ta tc td ⟨ea, ec, ed⟩ => by
                have h1 := rep_down H2.out ⟨w1, w2, w3, w4', w5'⟩
                rw [EU.out, ES.out, EL.out, ER.out, EC.out, hpu, hxr, eA, eB, ea, ec, ed] at h1
                rw [← h1, ← HE.out.1]
                exact HT5.out)
              have hne : ((ky : Int) == nr) = false := by rw [beq_eq_false_iff_ne]; intro e; exact w1 (by rw [ER.out]; exact e)
              have u5 := HB5.out.nd.upc hky
              rw [hpu] at u5
              have r4 := HB5.out.nd.rc hky
              rw [hxr] at r4
              clear w1 w2 w3 w4' w5' hpu hxr eA eB
              go_upto_region 23 with fail
              have HSS := Lib.hid (HB5.out.gr (Gr.drew wr 1)).s
              have HND5 := Lib.hid (HN5.out.gr (Gr.drew wr 1))
              have HH1 : Hid (Calls Try.prog 39 #[.agg #[.int .i64 t.root, (.slice (some ⟨nb, off, none⟩) t.ns.length cap)], .int .i64 pu, .int .i64 0, .int .i64 xr] wr.drew (Rs wr.drew (.slice (some ⟨nb, off, none⟩) t.ns.length cap) tA)) := Lib.hid (by
                have h1 := HSS.out.hang hl HOP.out false HOX.out
                rw [EAB.out.1] at h1
                exact h1)
              have HCS : Hid (∀ X vX tX, St wr.drew (.slice (some ⟨nb, off, none⟩) t.ns.length cap) tX X vX → X.cell? ⟨W.heap.size, 0, none⟩ = some (.int .i64 t.root) ∧ X.cell? ⟨W.heap.size, 1, none⟩ = some (.slice (some ⟨nb, off, none⟩) t.ns.length cap) ∧ X.frozen? ⟨W.heap.size, 0, none⟩ = false ∧ X.frozen? ⟨W.heap.size, 1, none⟩ = false) := Lib.hid (fun X vX tX hX => (HB5.out.gr (Gr.drew wr 1)).stc hX)
              have HFN : Hid (∀ X a c, St wr.drew (.slice (some ⟨nb, off, none⟩) t.ns.length cap) tA X (.slice a tA.ns.length c) → Bx W ((X.setCell ⟨W.heap.size, 0, none⟩ (.int .i64 tA.root)).setCell ⟨W.heap.size, 1, none⟩ (.slice a tA.ns.length c)) (.slice (some ⟨nb, off, none⟩) t.ns.length cap) tA (.slice a tA.ns.length c) ∧ Nb ((X.setCell ⟨W.heap.size, 0, none⟩ (.int .i64 tA.root)).setCell ⟨W.heap.size, 1, none⟩ (.slice a tA.ns.length c)) q [⟨true, nc, nv, nl, nr, nu⟩]) := Lib.hid (fun X a c hX => (HB5.out.gr (Gr.drew wr 1)).stn HQ.out HND5.out hX LAB.out.1)
              go_cut [] (fun wx => ∃ ax cx, Hid (Bx W wx (.slice (some ⟨nb, off, none⟩) t.ns.length cap) tA (.slice ax tA.ns.length cx) ∧ Nb wx q [⟨true, nc, nv, nl, nr, nu⟩]))
              case first =>
                go_region_law (first
                  | (go_simp; go_at_call 39; refine HH1.out.mono ?_; rintro e' w9 ⟨v9, rfl, s9⟩; obtain ⟨a9, c9, rfl, -, -⟩ := s9.nd.len; obtain ⟨y0, y1, y2, y3⟩ := HCS.out _ _ _ s9))
                all_goals
                  have HEND := Lib.hid (HFN.out _ _ _ s9)
                  clear x0 x1 x2 x3 y0 y1 y2 y3 n0 n1 n3 n4 n5 s9 HH1 HCS HFN l3 r1 u5 r4
                  go_wp2_with fail
                  go_meet
                  exact ⟨_, _, HEND⟩
              case rest =>
                obtain ⟨a6, c6, HC⟩ := hcut
                have HB6 := Lib.hid HC.out.1
                have HN6 := Lib.hid HC.out.2
                clear HC x0 x1 x2 x3 n0 n1 n3 n4 n5 l3 r1 u5 r4 HH1 HCS HFN HSS HND5 HB5 HN5
                obtain ⟨x0, x1, x2, x3⟩ := HB6.out.tb.all
                obtain ⟨n0, n1, -, n3, n4, n5⟩ := HN6.out.six
                simp only at n0 n1 n3 n4 n5
                go_wp2_with fail
                refine (HB6.out.s.hang (by rw [LAB.out.1]; exact hl) (.inr ((has_len LAB.out.1).2 HY.out)) true (.inr ((has_len LAB.out.1).2 HOR.out))).mono ?_
                rintro e' w7 ⟨v7, rfl, s7⟩
                rw [EAB.out.2] at s7 ⊢
                obtain ⟨a7, c7, rfl, -, -⟩ := s7.nd.len
                have HBN := Lib.hid (HB6.out.stn HQ.out HN6.out s7 (LAB.out.2.trans LAB.out.1.symm))
                obtain ⟨y0, y1, y2, y3⟩ := HB6.out.stc s7
                clear x0 x1 x2 x3 n0 n1 n3 n4 n5 s7 HB6 HN6
                go_upto_region 25 with fail
                clear y0 y1 y2 y3
                generalize (w7.setCell ⟨W.heap.size, 0, none⟩ (.int .i64 tB.root)).setCell ⟨W.heap.size, 1, none⟩ (.slice a7 tB.ns.length c7) = w75 at HBN ⊢
                have HB7 := Lib.hid HBN.out.1
                have HN7 := Lib.hid HBN.out.2
                clear HBN
                obtain ⟨ta, ea⟩ : ∃ ta, tB.hang nu sd ky = ta := ⟨_, rfl⟩
                obtain ⟨tc, ec⟩ : ∃ tc, ta.hang ky false nl = tc := ⟨_, rfl⟩
                obtain ⟨td, ed⟩ : ∃ td, tc.paint ky nc = td := ⟨_, rfl⟩
                have LA : Hid (ta.ns.length = t.ns.length ∧ tc.ns.length = t.ns.length ∧ td.ns.length = t.ns.length) := Lib.hid (by rw [← ed, paint_len, ← ec, hang_len, ← ea, hang_len]; exact ⟨LAB.out.2, LAB.out.2, LAB.out.2⟩)
                have EA := Lib.hid (And.intro ea (And.intro ec ed))
                clear ea ec ed
                go_upto_region 25 with fail
                obtain ⟨x0, x1, x2, x3⟩ := HB7.out.tb.all
                obtain ⟨n0, n1, -, n3, n4, n5⟩ := HN7.out.six
                simp only at n0 n1 n3 n4 n5
                have HSS := Lib.hid (HB7.out.gr (Gr.drew w75 1)).s
                have HND5 := Lib.hid (HN7.out.gr (Gr.drew w75 1))
                have HH1 : Hid (Calls Try.prog 39 #[.agg #[.int .i64 tB.root, (.slice a7 tB.ns.length c7)], .int .i64 nu, .int .i64 (sI sd), .int .i64 ky] w75.drew (Rs w75.drew (.slice a7 tB.ns.length c7) ta)) := Lib.hid (by
                  have h1 := HSS.out.hang (by rw [LAB.out.2]; exact hl) ((ok_len (LAB.out.2)).2 HUO.out) sd (.inr ((has_len (LAB.out.2)).2 HY.out))
                  rw [EA.out.1] at h1
                  exact h1)
                have HH2 : Hid (∀ X vX, St w75.drew (.slice a7 tB.ns.length c7) ta X vX → Calls Try.prog 39 #[.agg #[.int .i64 ta.root, vX], .int .i64 ky, .int .i64 0, .int .i64 nl] X (Rs w75.drew (.slice a7 tB.ns.length c7) tc)) := Lib.hid (fun X vX hX => by
                  have h1 := hX.hang (by rw [LA.out.1]; exact hl) (.inr ((has_len LA.out.1).2 HY.out)) false ((ok_len LA.out.1).2 HOL.out)
                  rw [EA.out.2.1] at h1
                  exact h1)
                have HCL : Hid (∀ X vX tX, St w75.drew (.slice a7 tB.ns.length c7) tX X vX → X.cell? ⟨q, 3, none⟩ = some (.int .i64 nl)) := Lib.hid (fun X vX tX hX => (HND5.out.below hX.bl (Array.getElem?_eq_some_iff.1 HND5.out).1).six.2.2.2.1)
                have HCS : Hid (∀ X vX tX, St w75.drew (.slice a7 tB.ns.length c7) tX X vX → X.cell? ⟨W.heap.size, 0, none⟩ = some (.int .i64 tB.root) ∧ X.cell? ⟨W.heap.size, 1, none⟩ = some (.slice a7 tB.ns.length c7) ∧ X.frozen? ⟨W.heap.size, 0, none⟩ = false ∧ X.frozen? ⟨W.heap.size, 1, none⟩ = false) := Lib.hid (fun X vX tX hX => (HB7.out.gr (Gr.drew w75 1)).stc hX)
                have HFN : Hid (∀ X a c, St w75.drew (.slice a7 tB.ns.length c7) tc X (.slice a tc.ns.length c) → Bx W ((X.setCell ⟨W.heap.size, 0, none⟩ (.int .i64 tc.root)).setCell ⟨W.heap.size, 1, none⟩ (.slice a tc.ns.length c)) (.slice (some ⟨nb, off, none⟩) t.ns.length cap) tc (.slice a tc.ns.length c) ∧ Nb ((X.setCell ⟨W.heap.size, 0, none⟩ (.int .i64 tc.root)).setCell ⟨W.heap.size, 1, none⟩ (.slice a tc.ns.length c)) q [⟨true, nc, nv, nl, nr, nu⟩]) := Lib.hid (fun X a c hX => (HB7.out.gr (Gr.drew w75 1)).stn HQ.out HND5.out hX (LA.out.2.1.trans (LAB.out.2).symm))
                go_cut [] from 109 to 118 (fun wx => ∃ ax cx, Hid (Bx W wx (.slice (some ⟨nb, off, none⟩) t.ns.length cap) tc (.slice ax tc.ns.length cx) ∧ Nb wx q [⟨true, nc, nv, nl, nr, nu⟩]))
                case first =>
                  go_region_law (first
                    | (go_simp; go_at_call 39; refine (HH2.out _ _ s8).mono ?_; rintro e' w9 ⟨v9, rfl, s9⟩; obtain ⟨a9, c9, rfl, -, -⟩ := s9.nd.len; obtain ⟨y0, y1, y2, y3⟩ := HCS.out _ _ _ s9)
                    | (go_simp; go_at_call 39; refine HH1.out.mono ?_; rintro e' w8 ⟨v8, rfl, s8⟩; obtain ⟨a8, c8, rfl, -, -⟩ := s8.nd.len; have z3 := HCL.out _ _ _ s8))
                  all_goals
                    have HEND := Lib.hid (HFN.out _ _ _ s9)
                    clear x0 x1 x2 x3 y0 y1 y2 y3 n0 n1 n3 n4 n5 z3 s8 s9 HH1 HH2 HCL HCS HFN
                    go_wp2_with fail
                    go_meet
                    exact ⟨_, _, HEND⟩
                case rest =>
                  obtain ⟨a9, c9, HC⟩ := hcut
                  have HB9 := Lib.hid HC.out.1
                  have HN9 := Lib.hid HC.out.2
                  clear HC x0 x1 x2 x3 n0 n1 n3 n4 n5 HH1 HH2 HCL HCS HFN HSS HND5 HB7 HN7
                  obtain ⟨x0, x1, x2, x3⟩ := HB9.out.tb.all
                  obtain ⟨n0, n1, -, n3, n4, n5⟩ := HN9.out.six
                  simp only at n0 n1 n3 n4 n5
                  go_wp2_with fail
                  refine (HB9.out.s.paint (by rw [LA.out.2.1]; exact hl) ((has_len LA.out.2.1).2 HY.out) nc).mono ?_
                  rintro e' w10 ⟨v10, rfl, s10⟩
                  rw [EA.out.2.2] at s10 ⊢
                  obtain ⟨a10, c10, rfl, -, -⟩ := s10.nd.len
                  have HB10 := Lib.hid (HB9.out.st s10 (LA.out.2.2.trans LA.out.2.1.symm))
                  obtain ⟨y0, y1, y2, y3⟩ := HB9.out.stc s10
                  clear x0 x1 x2 x3 n0 n1 n3 n4 n5 s10 HB9 HN9
                  go_wp2_with fail
                  go_meet
                  exact ⟨td, _, _, by rw [HE.out.2.1], by rw [HE.out.2.2.1, EPL.out], by rw [HE.out.2.2.2, ESD.out]; rfl, Lib.hid ⟨HB10.out, LA.out.2.2, ETD.out ta tc td EA.out⟩⟩
          · obtain ⟨ky', hky', -⟩ := has_nat (show t.has (t.kid ky false) from hrest.parts.1)
            rw [hky'] at l3 hrest
            have HRS := Lib.hid hrest
            have HKK := Lib.hid hk'
            have hk2 : (0 : Int) ≤ ky' := by omega
            clear hrest hk' hk0 hky'
            go_wp2
            go_roundg k'
            case measure => have := HKK.out; omega
            case rel => exact ⟨_, rfl, Lib.hid ⟨HB5.out, HN5.out, HRS.out⟩⟩
    case rest =>
      obtain ⟨tx, ax, cx, rfl, rfl, rfl, HC⟩ := hcut
      have HB6 := Lib.hid HC.out.1
      have LX : Hid (tx.ns.length = t.ns.length) := Lib.hid HC.out.2.1
      have EX5 : Hid (tx.put j nE = t5) := Lib.hid HC.out.2.2
      clear HC n0 n1 n3 n4 n5 HB4 HN4 HOUT HTWO
      go_upto_region 27 with fail
      obtain ⟨x0, x1, x2, x3⟩ := HB6.out.tb.all
      have HEM := Lib.hid (rEmpty_at wc.drew)
      have HG1 : Hid (∀ X, Gr wc.drew X → Bx W X (.slice (some ⟨nb, off, none⟩) t.ns.length cap) tx (.slice ax tx.ns.length cx)) := Lib.hid (fun X hX => HB6.out.gr ((Gr.drew wc 1).trans hX))
      have HGC : Hid (∀ X, Gr wc.drew X → X.cell? ⟨W.heap.size, 0, none⟩ = some (.int .i64 tx.root) ∧ X.cell? ⟨W.heap.size, 1, none⟩ = some (.slice ax tx.ns.length cx)) := Lib.hid (fun X hX => ⟨(HG1.out X hX).tb.all.1, (HG1.out X hX).tb.all.2.1⟩)
      have HPU : Hid (∀ X, Gr wc.drew X → Calls Try.prog 40 #[.agg #[.int .i64 tx.root, (.slice ax tx.ns.length cx)], .int .i64 j, .agg #[.bool false, .bool false, .int .u64 0, .int .i64 (-1), .int .i64 (-1), .int .i64 (-1)]] X (Rs X (.slice ax tx.ns.length cx) t5)) := Lib.hid (fun X hX => by
        have h1 := (HG1.out X hX).s.put (by rw [LX.out]; exact hl) ((has_len LX.out).2 HX.out) nE nE_U
        rw [EX5.out] at h1
        exact h1)
      have HCS : Hid (∀ X Y vX, Gr wc.drew X → St X (.slice ax tx.ns.length cx) t5 Y vX → Y.cell? ⟨W.heap.size, 0, none⟩ = some (.int .i64 tx.root) ∧ Y.cell? ⟨W.heap.size, 1, none⟩ = some (.slice ax tx.ns.length cx) ∧ Y.frozen? ⟨W.heap.size, 0, none⟩ = false ∧ Y.frozen? ⟨W.heap.size, 1, none⟩ = false) := Lib.hid (fun X Y vX hX hs => (HG1.out X hX).stc hs)
      have HFN : Hid (∀ X Y a c, Gr wc.drew X → St X (.slice ax tx.ns.length cx) t5 Y (.slice a t5.ns.length c) → Bx W ((Y.setCell ⟨W.heap.size, 0, none⟩ (.int .i64 t5.root)).setCell ⟨W.heap.size, 1, none⟩ (.slice a t5.ns.length c)) (.slice (some ⟨nb, off, none⟩) t.ns.length cap) t5 (.slice a t5.ns.length c)) := Lib.hid (fun X Y a c hX hs => (HG1.out X hX).st hs (L5.out.trans LX.out.symm))
      clear HB6
      go_cut [] from 124 to 127 (fun wx => ∃ a c, Hid (Bx W wx (.slice (some ⟨nb, off, none⟩) t.ns.length cap) t5 (.slice a t5.ns.length c)))
      case first =>
        go_region_law (first
          | (go_simp; go_at_call 38; refine HEM.out.mono ?_; rintro e' w8 ⟨rfl, hg8⟩; obtain ⟨z0, z1⟩ := HGC.out _ hg8)
          | (go_simp; go_at_call 40; refine (HPU.out _ hg8).mono ?_; rintro e' w9 ⟨v9, rfl, s9⟩; obtain ⟨a9, c9, rfl, -, -⟩ := s9.nd.len; obtain ⟨y0, y1, y2, y3⟩ := HCS.out _ _ _ hg8 s9))
        all_goals
          have HEND := Lib.hid (HFN.out _ _ _ _ hg8 s9)
          clear x0 x1 x2 x3 z0 z1 y0 y1 y2 y3 s9 hg8 HEM HG1 HGC HPU HCS HFN
          go_wp2_with fail
          go_meet
          exact ⟨_, _, HEND⟩
      case rest =>
        obtain ⟨a9, c9, HB9⟩ := hcut
        clear x0 x1 x2 x3 HEM HG1 HGC HPU HCS HFN
        obtain ⟨x0, x1, x2, x3⟩ := HB9.out.tb.all
        rcases HFI.out with ⟨hg, ht'⟩ | ⟨hg, n, hf⟩
        · subst hg
          have HT := Lib.hid ht'
          have HF := Lib.hid HB9.out.fin
          obtain ⟨y0, y1, y2, y3⟩ := HB9.out.rb.all
          clear ht' HFI HB9
          go_wp2
          obtain ⟨z0, z1, -, -⟩ := HF.out.rb.all
          exact bodyPost_ret (v := .tuple #[.agg #[.int .i64 t5.root, .slice a9 t5.ns.length c9], .int .i64 0]) (by simp [results, Try.results14, go_sem, z0, z1]) rfl (by rw [HT.out]; exact ⟨⟨_, rfl, HF.out.nd⟩, HF.out.bl⟩)
        · subst hg
          have HFF := Lib.hid hf
          have L9 : Hid (t'.ns.length = t5.ns.length) := Lib.hid hf.len
          clear hf HFI
          go_wp2_with fail
          refine (rfilled_at HB9.out.nd (by rw [L5.out]; exact hl) HFF.out).mono ?_
          rintro e' w10 ⟨v10, rfl, hN10, hb10, hd10⟩
          obtain ⟨a10, c10, rfl, -, -⟩ := hN10.len
          have HF := Lib.hid (HB9.out.finRt hN10 hb10 hd10 L9.out)
          obtain ⟨y0, y1, y2, y3⟩ := (HB9.out.rb.below hb10 HB9.out.rb.lt).all
          clear x0 x1 x2 x3 hN10 hb10 hd10 HB9
          go_wp2
          obtain ⟨z0, z1, -, -⟩ := HF.out.rb.all
          exact bodyPost_ret (v := .tuple #[.agg #[.int .i64 t'.root, .slice a10 t'.ns.length c10], .int .i64 0]) (by simp [results, Try.results14, go_sem, z0, z1]) rfl ⟨⟨_, rfl, HF.out.nd⟩, HF.out.bl⟩
theorem rDelete_at {W : World} {v : Value} {t t' : T} {m : Int} {z : Int} {e : Int} (hN : Nds W v t.ns) (hI : Del m z t t' e) :
    Calls Try.prog 14 #[tv t v, .int .u64 m, .int .i64 z] W (Ie W t' e) := by
  cases hI with
  | order h => exact rDelete_order hN h
  | arg h hk => exact rDelete_arg hN h hk
  | idle h hk hi => exact rDelete_idle hN h hk hi
  | done h hk hi t' hr => exact rDelete_done hN h hk hi hr
end Go.Proofs.Ytgjacmkedgbneaa

namespace Go.Proofs.Ytgjacmkedgbneaa
open Go.RowKit Go.Sort Ky Wd Tn Tr

theorem Nds.otherT {w : World} {v : Value} {l : List N} {q o n c : Nat} {x : Int} {a : Option Addr} {ty : TypeId} {y : Value} (h : Nds w v l) (hT : Tb w q x (.slice a n c) ty) : Nds (w.setCell ⟨q, o, none⟩ y) v l := by
  refine h.other2 (q := ⟨q, o, none⟩) ?_ y
  intro hz a' n' c' e
  obtain ⟨b, off, cap, rfl, -, -, hc⟩ := h.at (k := 0) (List.length_pos_iff.2 hz)
  simp only [Value.slice.injEq, Option.some.injEq] at e
  rw [← e.1]
  rintro rfl
  have h0 := hc.1
  have hT' : w.heap[b]? = _ := hT
  simp only [World.cell?, hT'] at h0
  rcases (show off + 0 * 6 = 0 ∨ off + 0 * 6 = 1 ∨ 2 ≤ off + 0 * 6 by omega) with e | e | e
  · rw [e] at h0; simp at h0
  · rw [e] at h0; simp at h0
  · rw [Array.getElem?_eq_none (by simpa using e)] at h0; cases h0
/-- A tree's box is stored into: whatever tree lies elsewhere lies there still. -/
theorem Nds.stored {w : World} {v : Value} {l : List N} {q n c : Nat} {x x' : Int} {a : Option Addr} {v' : Value} {ty : TypeId} (h : Nds w v l) (hT : Tb w q x (.slice a n c) ty) : Nds ((w.setCell ⟨q, 0, none⟩ (.int .i64 x')).setCell ⟨q, 1, none⟩ v') v l :=
  (h.otherT hT).otherT (hT.storeR x')
theorem new24 : newT 24 = ⟨-1, List.replicate 24 nE⟩ ∧ newE 24 = 0 := ⟨rfl, rfl⟩
theorem whole24 : Whole ⟨-1, List.replicate 24 nE⟩ .L := ⟨by decide, rfl, trivial, List.nodup_nil, fun i _ _ => by unfold T.nd; rw [List.getD, List.getElem?_replicate]; split <;> rfl⟩
theorem rightL (m : Int) : RightB m .L := ⟨rfl, List.Pairwise.nil, rfl⟩
/-- What a round comes to. -/
def ResM (m : Int) (u : T) (f : Int) : Prop := (f = 0 ∧ u.ns.length = 24 ∧ ∃ b', Whole u b' ∧ RightB m b') ∨ f ≠ 0
/-- What stands at the round's end, whatever was done. -/
def Ms (m : Int) (W wr : World) (q : Nat) : Prop :=
  ∃ (t : T) (b : B) (a : Option Addr) (c : Nat), t.ns.length = 24 ∧ Tb wr q t.root (.slice a 24 c) 24 ∧ Nds wr (.slice a 24 c) t.ns ∧ Whole t b ∧ RightB m b ∧ Tb wr W.heap.size 0 (.slice none 0 0) 24 ∧ Below W.heap.size W wr
/-- What Made tells. -/
def Md (m : Int) (W : World) (e : Ending) (w' : World) : Prop := ∃ (t : T) (b : B) (v' : Value), e = .returned (.agg #[.int .i64 t.root, v']) ∧ t.ns.length = 24 ∧ Nds w' v' t.ns ∧ Whole t b ∧ RightB m b ∧ Below W.heap.size W w'

set_option maxHeartbeats 8000000 in
set_option maxRecDepth 100000 in
theorem Made_at (m : Int) (vl : Value) (zs : List Int) (W : World) (hl : Ints .u16 W vl zs) : Calls Try.prog 27 #[.int .u64 m, vl] W (Md m W) := by
  have HL := Lib.hid hl
  obtain ⟨al, cl, rfl, hmx, -, -⟩ := hl
  unfold maxLen at hmx
  have HR0 := Lib.hid (Tb.new W 0 (.slice none 0 0) 24)
  have HB0 := Lib.hid (Gr.alloc W (.cells #[.int .i64 0, .slice none 0 0] 24)).below
  go_enter Try.func27, Try.ntmps27
  go_upto_region 1 with fail
  generalize W.alloc (.cells #[.int .i64 0, .slice none 0 0] 24) = w1 at HR0 HB0 ⊢
  have HNW := Lib.hid (rNew_at 24 w1)
  rw [new24.1, new24.2] at HNW
  change Hid (Calls Try.prog _ _ _ fun en w' => ∃ a cap, en = .returned (.tuple #[.agg #[.int .i64 (-1), .slice a 24 cap], .int .i64 0]) ∧ Nds w' (.slice a 24 cap) (List.replicate 24 nE) ∧ Below w1.heap.size w1 w') at HNW
  go_wp2_with fail
  refine HNW.out.mono ?_
  rintro e' w2 ⟨a2, c2, rfl, hn2, hb2⟩
  have HX2 := Lib.hid ((Below.refl w2.heap.size w2).alloc (Nat.le_refl _) (.cells #[.int .i64 (-1), .slice a2 24 c2] 24))
  have HB2 := Lib.hid (bOnA (bOnA HB0.out hb2 (Nat.le_refl _)) HX2.out (Nat.le_refl _))
  have HT2 := Lib.hid (Tb.new w2 (-1) (.slice a2 24 c2) 24)
  have HN2 := Lib.hid (hn2.below HX2.out)
  have HR2 : Hid (Tb (w2.alloc (.cells #[.int .i64 (-1), .slice a2 24 c2] 24)) W.heap.size 0 (.slice none 0 0) 24) := Lib.hid ((HR0.out.below hb2 HR0.out.lt).below HX2.out (HR0.out.below hb2 HR0.out.lt).lt)
  have HQ2 : Hid (W.heap.size < w2.heap.size) := Lib.hid (Nat.lt_of_lt_of_le HR0.out.lt hb2.size)
  clear HNW hn2 hb2 HX2 HB0 HR0
  go_upto_region 3 with fail
  generalize w2.heap.size = q at HT2 HQ2 ⊢
  generalize w2.alloc (.cells #[.int .i64 (-1), .slice a2 24 c2] 24) = w3 at HT2 HN2 HB2 HR2 ⊢
  go_loopg [7] zs.length (fun gk i wr => ∃ j : Nat, j + gk = zs.length ∧ i = .int .i64 j ∧ Hid (Ms m W wr q))
  case atStart => exact ⟨0, by omega, rfl, Lib.hid ⟨⟨-1, List.replicate 24 nE⟩, .L, a2, c2, rfl, HT2.out, HN2.out, whole24, rightL m, HR2.out, HB2.out⟩⟩
  case round =>
    obtain ⟨j, hj, rfl, HJ⟩ := hrel
    clear HT2 HN2 HB2 HR2
    obtain ⟨t, b, a, c, ht24, hTb, hNd, hW, hR, hRb, hB⟩ := HJ.out
    have H24 := Lib.hid ht24
    have HTb := Lib.hid hTb
    have HNd := Lib.hid hNd
    have HWh := Lib.hid (And.intro hW hR)
    have HRb := Lib.hid hRb
    have HB := Lib.hid hB
    clear HJ ht24 hTb hNd hW hR hRb hB
    by_cases hlt : j < zs.length ∧ j < 60
    · obtain ⟨hlt1, hlt2⟩ := hlt
      rcases (HL.out.below HB.out).parts with ⟨h0, -⟩ | ⟨-, -, nb, off, cl', hv, -, hcell⟩
      · rw [h0] at hlt1; simp at hlt1
      · simp only [Value.slice.injEq] at hv
        obtain ⟨rfl, -, rfl⟩ := hv
        have c1 := hcell j hlt1
        obtain ⟨z, hz⟩ : ∃ z, zs.getD j 0 = z := ⟨_, rfl⟩
        have hzw : (Lit.int .u16 z).wf = true := by
          rw [← hz]
          refine HL.out.wf _ ?_
          simp [List.getD, hlt1]
        rw [hz] at c1
        have hzb : 0 ≤ z ∧ z < 65536 := by have := bounds_u16 hzw; omega
        have HOP := Lib.hid (Op_at m z hzb.1 hzb.2 24 (by omega) (by omega) wr)
        have HID : Hid (0 ≤ (opK m z 24).2 ∧ (opK m z 24).2 < 24 ∧ Kin (opK m z 24)) := Lib.hid (by
          have h : 0 ≤ (opK m z 24).2 ∧ (opK m z 24).2 < 24 := by unfold opK; simp only; omega
          exact ⟨h.1, h.2, U_wrap _, by unfold I; omega⟩)
        generalize opB z = ob at HOP
        generalize opK m z 24 = ok at HOP HID
        have hj60 : (j : Int) < 60 := by omega
        have hjl : (j : Int) < (zs.length : Int) := by omega
        clear hcell hz hzw
        go_wp2_with fail
        refine HOP.out.mono ?_
        rintro e' w4 ⟨rfl, hb4⟩
        have HX4 := Lib.hid (hb4.alloc hb4.size (.cells #[.int .u64 ok.1, .int .i64 ok.2] 27))
        have HKB := Lib.hid (Kb.new w4 ok)
        have HTb4 := Lib.hid (HTb.out.below HX4.out HTb.out.lt)
        have HNd4 := Lib.hid (HNd.out.below HX4.out)
        have HRb4 := Lib.hid (HRb.out.below HX4.out HRb.out.lt)
        have HB4 := Lib.hid (bOnA HB.out HX4.out (Nat.le_refl _))
        clear HOP hb4 HX4 HTb HNd HB HRb c1
        go_upto_region 6 with fail
        generalize w4.heap.size = qk at HKB ⊢
        generalize w4.alloc (.cells #[.int .u64 ok.1, .int .i64 ok.2] 27) = w5 at HKB HTb4 HNd4 HB4 HRb4 ⊢
        obtain ⟨k0, k1, -, -, -⟩ := HKB.out.all
        obtain ⟨x0, x1, -, -⟩ := HTb4.out.all
        have HHAS : Hid (t.has ok.2) := Lib.hid (by unfold T.has; have := HID.out; have := H24.out; omega)
        obtain ⟨td, ed, hD, hDR⟩ := del_any HWh.out.1 HWh.out.2 HHAS.out
        obtain ⟨ti, ei, hIn, hIR⟩ := ins_any HWh.out.1 HWh.out.2 HID.out.2.2 (Sub.keyU HNd4.out.us HWh.out.1.len HWh.out.1.sub) HHAS.out
        have HDE := Lib.hid (rDelete_at HNd4.out hD)
        have HRD : Hid (ResM m td ed) := Lib.hid (by
          rcases hDR with ⟨rfl, e1, bd, q1, q2, q3⟩ | ⟨rfl, e1⟩
          · exact .inl ⟨rfl, (Del.len hD).trans H24.out, bd, q1, q2⟩
          · exact .inr (by decide))
        have HRI : Hid (ResM m ti ei) := Lib.hid (by
          rcases hIR with ⟨rfl, e1, bd, q1, q2, q3⟩ | ⟨rfl, e1⟩
          · exact .inl ⟨rfl, (Ins.len hIn).trans H24.out, bd, q1, q2⟩
          · exact .inr (by decide))
        have HIN := Lib.hid hIn
        clear hD hDR hIn hIR
        unfold tv at HDE
        go_wp2_with fail
        refine HDE.out.mono ?_
        rintro e' w6 ⟨⟨v6, rfl, hn6⟩, hb6⟩
        obtain ⟨a6, c6, rfl, -, -⟩ := hn6.len
        have HA6 := Lib.hid ((Below.refl w6.heap.size w6).alloc (Nat.le_refl _) (.cells #[.int .i64 td.root, .slice a6 td.ns.length c6] 24))
        have HX6 := Lib.hid (hb6.alloc hb6.size (.cells #[.int .i64 td.root, .slice a6 td.ns.length c6] 24))
        have HTD := Lib.hid (Tb.new w6 td.root (.slice a6 td.ns.length c6) 24)
        have HND := Lib.hid (hn6.below HA6.out)
        have HTb6 := Lib.hid (HTb4.out.below HX6.out HTb4.out.lt)
        have HNd6 := Lib.hid (HNd4.out.below HX6.out)
        have HRb6 := Lib.hid (HRb4.out.below HX6.out HRb4.out.lt)
        have HKB6 := Lib.hid (HKB.out.below HX6.out HKB.out.lt)
        have HB6 := Lib.hid (bOnA HB4.out HX6.out (Nat.le_refl _))
        have HQD : Hid (q < w6.heap.size ∧ W.heap.size < w6.heap.size) := Lib.hid ⟨Nat.lt_of_lt_of_le HTb4.out.lt hb6.size, Nat.lt_of_lt_of_le HRb4.out.lt hb6.size⟩
        clear HDE hn6 hb6 HA6 HX6 HTb4 HNd4 HB4 HKB HRb4 k0 k1 x0 x1
        go_upto_if 45 with fail
        generalize w6.heap.size = qd at HTD HQD ⊢
        generalize w6.alloc (.cells #[.int .i64 td.root, .slice a6 td.ns.length c6] 24) = w7 at HTD HND HTb6 HNd6 HRb6 HKB6 HB6 ⊢
        go_cut [11] (fun s11 wx => ∃ (f : Int), s11 = .int .i64 f ∧ Hid (∃ (u : T) (a' : Option Addr) (c' : Nat), ResM m u f ∧ Tb wx qd u.root (.slice a' u.ns.length c') 24 ∧ Nds wx (.slice a' u.ns.length c') u.ns ∧ Tb wx q t.root (.slice a 24 c) 24 ∧ Nds wx (.slice a 24 c) t.ns ∧ Tb wx W.heap.size 0 (.slice none 0 0) 24 ∧ Below W.heap.size W wx))
        case first =>
          cases ob with
          | false =>
            go_wp2_with fail
            go_meet
            case rel => exact ⟨_, rfl, Lib.hid ⟨td, a6, c6, HRD.out, HTD.out, HND.out, HTb6.out, HNd6.out, HRb6.out, HB6.out⟩⟩
          | true =>
            obtain ⟨k0, k1, -, -, -⟩ := HKB6.out.all
            obtain ⟨x0, x1, -, -⟩ := HTb6.out.all
            have HIS := Lib.hid (rInsert_at HNd6.out HID.out.2.2 HIN.out)
            unfold tv at HIS
            go_wp2_with fail
            refine HIS.out.mono ?_
            rintro e' w9 ⟨⟨v9, rfl, hn9⟩, hb9⟩
            obtain ⟨a9, c9, rfl, -, -⟩ := hn9.len
            have HA9 := Lib.hid ((Below.refl w9.heap.size w9).alloc (Nat.le_refl _) (.cells #[.int .i64 ti.root, .slice a9 ti.ns.length c9] 24))
            have HX9 := Lib.hid (hb9.alloc hb9.size (.cells #[.int .i64 ti.root, .slice a9 ti.ns.length c9] 24))
            have HTI := Lib.hid (Tb.new w9 ti.root (.slice a9 ti.ns.length c9) 24)
            have HNI := Lib.hid (hn9.below HA9.out)
            have HTD9 := Lib.hid (HTD.out.below HX9.out HTD.out.lt)
            have HTb9 := Lib.hid (HTb6.out.below HX9.out HTb6.out.lt)
            have HNd9 := Lib.hid (HNd6.out.below HX9.out)
            have HRb9 := Lib.hid (HRb6.out.below HX9.out HRb6.out.lt)
            have HB9 := Lib.hid (bOnA HB6.out HX9.out (Nat.le_refl _))
            have HQI : Hid (qd < w9.heap.size) := Lib.hid (Nat.lt_of_lt_of_le HTD.out.lt hb9.size)
            clear HIS hn9 hb9 HA9 HX9 HTD HND HTb6 HNd6 HRb6 HKB6 HB6 k0 k1 x0 x1
            go_upto_region 9 with fail
            generalize w9.heap.size = qi at HTI HQI ⊢
            generalize w9.alloc (.cells #[.int .i64 ti.root, .slice a9 ti.ns.length c9] 24) = w10 at HTI HNI HTD9 HTb9 HNd9 HRb9 HB9 ⊢
            obtain ⟨x0, x1, -, -⟩ := HTI.out.all
            obtain ⟨y0, y1, y2, y3⟩ := HTD9.out.all
            have HEND : Hid (Tb ((w10.setCell ⟨qd, 0, none⟩ (.int .i64 ti.root)).setCell ⟨qd, 1, none⟩ (.slice a9 ti.ns.length c9)) qd ti.root (.slice a9 ti.ns.length c9) 24 ∧ Nds ((w10.setCell ⟨qd, 0, none⟩ (.int .i64 ti.root)).setCell ⟨qd, 1, none⟩ (.slice a9 ti.ns.length c9)) (.slice a9 ti.ns.length c9) ti.ns ∧ Tb ((w10.setCell ⟨qd, 0, none⟩ (.int .i64 ti.root)).setCell ⟨qd, 1, none⟩ (.slice a9 ti.ns.length c9)) q t.root (.slice a 24 c) 24 ∧ Nds ((w10.setCell ⟨qd, 0, none⟩ (.int .i64 ti.root)).setCell ⟨qd, 1, none⟩ (.slice a9 ti.ns.length c9)) (.slice a 24 c) t.ns ∧ Tb ((w10.setCell ⟨qd, 0, none⟩ (.int .i64 ti.root)).setCell ⟨qd, 1, none⟩ (.slice a9 ti.ns.length c9)) W.heap.size 0 (.slice none 0 0) 24 ∧ Below W.heap.size W ((w10.setCell ⟨qd, 0, none⟩ (.int .i64 ti.root)).setCell ⟨qd, 1, none⟩ (.slice a9 ti.ns.length c9))) := Lib.hid (by
              have hq := HQD.out
              exact ⟨HTD9.out.store _ _, HNI.out.stored HTD9.out, (HTb9.out.other (a := ⟨qd, 0, none⟩) (by show q ≠ qd; omega)).other (a := ⟨qd, 1, none⟩) (by show q ≠ qd; omega), HNd9.out.stored HTD9.out, (HRb9.out.other (a := ⟨qd, 0, none⟩) (by show W.heap.size ≠ qd; omega)).other (a := ⟨qd, 1, none⟩) (by show W.heap.size ≠ qd; omega), (HB9.out.setCell (p := ⟨qd, 0, none⟩) (by show W.heap.size ≤ qd; omega) _).setCell (p := ⟨qd, 1, none⟩) (by show W.heap.size ≤ qd; omega) _⟩)
            clear HTI HNI HTD9 HTb9 HNd9 HRb9 HB9
            go_wp2_with fail
            go_meet
            case rel => exact ⟨_, rfl, Lib.hid ⟨ti, a9, c9, HRI.out, HEND.out⟩⟩
        case rest =>
          obtain ⟨f, rfl, HC⟩ := hcut
          obtain ⟨u, a', c', hRes, hTu, hNu, hTt, hNt, hRt, hBt⟩ := HC.out
          have HRes := Lib.hid hRes
          have HTu := Lib.hid hTu
          have HNu := Lib.hid hNu
          have HTt := Lib.hid hTt
          have HNt := Lib.hid hNt
          have HRt := Lib.hid hRt
          have HBt := Lib.hid hBt
          clear HC hRes hTu hNu hTt hNt hRt hBt HTD HND HTb6 HNd6 HRb6 HKB6 HB6 HRD HRI HIN HL
          by_cases hf : f = 0
          · subst hf
            obtain ⟨hu24, bu, hwu, hru⟩ : u.ns.length = 24 ∧ ∃ b', Whole u b' ∧ RightB m b' := by
              rcases HRes.out with h | h
              · exact h.2
              · exact absurd rfl h
            rw [hu24] at HTu HNu
            obtain ⟨x0, x1, -, -⟩ := HTu.out.all
            obtain ⟨y0, y1, y2, y3⟩ := HTt.out.all
            have HEND : Hid (Ms m W ((wc.setCell ⟨q, 0, none⟩ (.int .i64 u.root)).setCell ⟨q, 1, none⟩ (.slice a' 24 c')) q) := Lib.hid (by
              have hq := HQD.out
              have hq2 := HQ2.out
              exact ⟨u, bu, a', c', hu24, HTt.out.store _ _, HNu.out.stored HTt.out, hwu, hru, (HRt.out.other (a := ⟨q, 0, none⟩) (by show W.heap.size ≠ q; omega)).other (a := ⟨q, 1, none⟩) (by show W.heap.size ≠ q; omega), (HBt.out.setCell (p := ⟨q, 0, none⟩) (by show W.heap.size ≤ q; omega) _).setCell (p := ⟨q, 1, none⟩) (by show W.heap.size ≤ q; omega) _⟩)
            clear hu24 hwu hru
            go_wp2
            go_roundg (zs.length - (j + 1))
            case measure => omega
            case rel => exact ⟨j + 1, by omega, by go_num, HEND⟩
          · have hff : (f == 0) = false := by simpa using hf
            have HEND : Hid (Ms m W wc q) := Lib.hid ⟨t, b, a, c, H24.out, HTt.out, HNt.out, HWh.out.1, HWh.out.2, HRt.out, HBt.out⟩
            clear hf
            go_wp2
            go_roundg (zs.length - (j + 1))
            case measure => omega
            case rel => exact ⟨j + 1, by omega, by go_num, HEND⟩
    · have hlt' : ¬ (j < zs.length) ∨ (j < zs.length ∧ ¬ j < 60) := by omega
      obtain ⟨x0, x1, -, -⟩ := HTb.out.all
      obtain ⟨y0, y1, y2, y3⟩ := HRb.out.all
      have HF := Lib.hid (And.intro (HRb.out.store t.root (.slice a 24 c)).all (And.intro (HNd.out.stored (x' := t.root) (v' := .slice a 24 c) HRb.out) ((HB.out.setCell (p := ⟨W.heap.size, 0, none⟩) (Nat.le_refl _) (.int .i64 t.root)).setCell (p := ⟨W.heap.size, 1, none⟩) (Nat.le_refl _) (.slice a 24 c))))
      clear hlt
      rcases hlt' with h | ⟨h, h'⟩
      · have h1 : ¬ (j : Int) < (zs.length : Int) := by omega
        clear h
        go_wp2
        obtain ⟨⟨z0, z1, -, -⟩, hf2, hf3⟩ := HF.out
        exact bodyPost_ret (v := .agg #[.int .i64 t.root, .slice a 24 c]) (by simp [results, Try.results27, go_sem, z0, z1]) rfl ⟨t, b, _, rfl, H24.out, hf2, HWh.out.1, HWh.out.2, hf3⟩
      · have h1 : (j : Int) < (zs.length : Int) := by omega
        have h2 : ¬ (j : Int) < 60 := by omega
        clear h h'
        go_wp2
        obtain ⟨⟨z0, z1, -, -⟩, hf2, hf3⟩ := HF.out
        exact bodyPost_ret (v := .agg #[.int .i64 t.root, .slice a 24 c]) (by simp [results, Try.results27, go_sem, z0, z1]) rfl ⟨t, b, _, rfl, H24.out, hf2, HWh.out.1, HWh.out.2, hf3⟩
end Go.Proofs.Ytgjacmkedgbneaa

namespace Go.Proofs.Ytgjacmkedgbneaa
open Go.ChangeShapes Go.WideShapes Go.ChangeAt Go.RowKit

theorem own : ownKnob Try.prog.godebug = none := by kernel_rfl
theorem laidOut : laidOutB Try.prog = true := by kernel_rfl

section
variable {H : Type} {enc : TypeId × Value → H} {P : Program}

/-- Arguments read, behind a call that turned nothing old, as they did. -/
theorem args_stay (hl : laidOutB P = true) {W W' : World} (hb : Below W.heap.size W W') : ∀ (ts : List TypeId) (vs : List Value) (ds : List (DataW H)) (ps : List MemPlace),
    ts.all (fun t => P.readableRec t && decide (t < P.types.size)) = true → DataW.TrodAll enc P W 0 (fun _ => true) true ts vs ds ps → (∀ x ∈ ps, x.block < W.heap.size) →
    DataW.TrodAll enc P W' 0 (fun b => decide (b < W.heap.size)) true ts vs ds ps
  | [], vs, ds, ps, _, h, _ => by
    obtain ⟨rfl, rfl, rfl⟩ := trodAll_nil h
    exact trodAll_mk0
  | t :: ts, vs, ds, ps, ht, h, hlt => by
    simp only [List.all_cons, Bool.and_eq_true, decide_eq_true_eq] at ht
    obtain ⟨v, vs', d, ds', p, q, rfl, rfl, rfl, h0, h1⟩ := trodAll_cons h
    exact trodAll_cons_mk (Below.trod hl ht.1.1 ht.1.2 h0 hb (fun x hx => hlt x (List.mem_append_left _ hx)))
      (args_stay hl hb ts vs' ds' q ht.2 h1 (fun x hx => hlt x (List.mem_append_right _ hx)))

/-- **The row's last step, of whatever law.** -/
theorem post_law {f : Func} {s : ChangeSpec} {apart fresh handsOn : Bool} {W W' : World} {args : Array Value} {ds : List (DataW H)} {before : List MemPlace} {tb : TypeId}
    (hl : laidOutB P = true) (hp : f.params.toList.all (fun t => P.readableRec t && decide (t < P.types.size)) = true) (hv : s.vars = []) (hr : f.resultTypes = #[tb]) (hu : P.underlying tb = some .bool)
    (hW : DataW.Whole enc P f.params.toList s.vars apart W args.toList ds [] before) (hfn : s.fn H (ds ++ []) = { results := [.lit (.bool true)], args := ds }) (hb : Below W.heap.size W W') :
    s.post enc P f apart fresh handsOn false W args (.bool true) W' := by
  have hlt : ∀ p ∈ before, p.block < W.heap.size := fun p hp => hW.lt p hp
  have hW0 := hW
  obtain ⟨p, q, hA, hV, rfl, -, -⟩ := hW0
  rw [hv] at hV
  obtain rfl : q = [] := (trodVars_none hV).2
  refine ⟨ds, [], p ++ [], [], p, [], hW, ?_, ?_, ?_, World.keptBut_mono (fun x hx => ⟨hx, ?_⟩) (hb.frame (· ∈ p ++ [])), fun h => by cases h⟩
  · rw [hfn, hr]
    exact trodAll_cons_mk (shut_bool hu _) trodAll_mk0
  · rw [hfn]
    exact args_stay hl hb _ _ _ _ hp hA (fun x hx => hlt x (List.mem_append_left _ hx))
  · rw [hfn, hv]
    exact (by simp [DataW.TrodVars])
  · exact Or.inr (Or.inl (by simpa using hx))
end
end Go.Proofs.Ytgjacmkedgbneaa
