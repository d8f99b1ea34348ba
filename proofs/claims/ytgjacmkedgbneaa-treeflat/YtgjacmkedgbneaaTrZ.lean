/-
  Plain facts on trees: a tree seen from one of its places; what is painted, hung and turned there.
-/
import Derived.Test.YtgjacmkedgbneaaTrX
import Derived.Test.YtgjacmkedgbneaaTrN
namespace Go.Proofs.Ytgjacmkedgbneaa
namespace Tr
open Wd Tn Ky

/-- A node by its sides: x on the side s, o on the other. -/
def bn (s : Bool) (i : Int) (c : Bool) (v : Int) (x o : B) : B := .N i c v fun b => if b = s then x else o
theorem bn_swap (s : Bool) (i : Int) (c : Bool) (v : Int) (x o : B) : bn s i c v x o = bn (!s) i c v o x := by
  unfold bn
  congr 1
  funext b
  cases b <;> cases s <;> rfl
theorem bn_eta (s : Bool) (i : Int) (c : Bool) (v : Int) (k : Bool → B) : B.N i c v k = bn s i c v (k s) (k (!s)) := by
  unfold bn
  congr 1
  funext b
  cases b <;> cases s <;> rfl
/-- A step of the way down to a place: on which side of which node, and the other child. -/
structure F where
  s : Bool
  i : Int
  c : Bool
  v : Int
  o : B
def F.put (f : F) (x : B) : B := bn f.s f.i f.c f.v x f.o
def plug : B → List F → B
  | b, [] => b
  | b, f :: fs => plug (f.put b) fs
def upOf : List F → Int
  | [] => -1
  | f :: _ => f.i
def idsC : List F → List Int
  | [] => []
  | f :: fs => f.i :: (f.o.ids ++ idsC fs)
/-- What a node by its sides is in memory. -/
def nodeOf (s c : Bool) (v x o u : Int) : N := ⟨true, c, v, if s then o else x, if s then x else o, u⟩
def SubC (t : T) : List F → Int → Prop
  | [], x => t.root = x
  | f :: fs, x => t.has f.i ∧ t.nd f.i = nodeOf f.s f.c f.v x f.o.rid (upOf fs) ∧ Sub t f.o f.i ∧ SubC t fs f.i
theorem Sub_bn (t : T) (s : Bool) (i : Int) (c : Bool) (v : Int) (x o : B) (u : Int) : Sub t (bn s i c v x o) u ↔ t.has i ∧ t.nd i = nodeOf s c v x.rid o.rid u ∧ Sub t x i ∧ Sub t o i := by
  cases s
  · simp [bn, Sub, nodeOf]
  · simp [bn, Sub, nodeOf, and_comm]
theorem ids_bn (s : Bool) (i : Int) (c : Bool) (v : Int) (x o : B) : (bn s i c v x o).ids.Perm (x.ids ++ i :: o.ids) := by
  cases s
  · simp [bn, B.ids]
  · simp only [bn, B.ids, if_true, Bool.false_eq_true, if_false]
    refine List.perm_append_comm.trans ?_
    simp only [List.cons_append]
    exact (List.perm_middle.symm)
/-- All of it, seen from a place. -/
structure Z (t : T) (b : B) (fs : List F) : Prop where
  len : t.ns.length ≤ 64
  sub : Sub t b (upOf fs)
  ctx : SubC t fs b.rid
  nod : (b.ids ++ idsC fs).Nodup
  rest : ∀ i, t.has i → i ∉ b.ids → i ∉ idsC fs → t.nd i = nE
theorem Z_whole (t : T) (b : B) : Z t b [] ↔ Whole t b :=
  ⟨fun h => ⟨h.len, h.ctx, h.sub, by simpa [idsC] using h.nod, fun i hi hn => h.rest i hi hn (by simp [idsC])⟩, fun h => ⟨h.len, h.sub, h.root, by simpa [idsC] using h.nod, fun i hi hn _ => h.rest i hi hn⟩⟩
theorem Z_step (t : T) (b : B) (f : F) (fs : List F) : Z t b (f :: fs) ↔ Z t (f.put b) fs := by
  have hp : (b.ids ++ idsC (f :: fs)).Perm ((f.put b).ids ++ idsC fs) := by
    have h1 := (ids_bn f.s f.i f.c f.v b f.o).symm.append_right (idsC fs)
    have e : b.ids ++ idsC (f :: fs) = b.ids ++ f.i :: f.o.ids ++ idsC fs := by simp [idsC]
    rw [e]
    exact h1
  have hm : ∀ i, (i ∉ (f.put b).ids ∧ i ∉ idsC fs) ↔ (i ∉ b.ids ∧ i ∉ idsC (f :: fs)) := fun i => by
    have := hp.mem_iff (a := i)
    rw [List.mem_append, List.mem_append] at this
    rw [← not_or, ← not_or, this]
  constructor
  · intro h
    obtain ⟨h1, h2, h3, h4⟩ := h.ctx
    exact ⟨h.len, (Sub_bn ..).2 ⟨h1, h2, h.sub, h3⟩, h4, hp.nodup_iff.1 h.nod, fun i hi n1 n2 => h.rest i hi ((hm i).1 ⟨n1, n2⟩).1 ((hm i).1 ⟨n1, n2⟩).2⟩
  · intro h
    obtain ⟨h1, h2, h3, h4⟩ := (Sub_bn ..).1 h.sub
    exact ⟨h.len, h3, ⟨h1, h2, h4, h.ctx⟩, hp.nodup_iff.2 h.nod, fun i hi n1 n2 => h.rest i hi ((hm i).2 ⟨n1, n2⟩).1 ((hm i).2 ⟨n1, n2⟩).2⟩
theorem Z_plug (t : T) (b : B) (fs : List F) : Z t b fs ↔ Whole t (plug b fs) := by
  induction fs generalizing b with
  | nil => exact Z_whole t b
  | cons f fs ih => rw [Z_step, ih]; rfl

/-! ### What a change elsewhere leaves -/
theorem Sub.congr {t t' : T} (hl : t'.ns.length = t.ns.length) : {b : B} → {u : Int} → (∀ j ∈ b.ids, t'.nd j = t.nd j) → Sub t b u → Sub t' b u
  | .L, _, _, _ => trivial
  | .N i c v k, u, hc, h => by
    simp only [B.ids, List.mem_append, List.mem_cons] at hc
    exact ⟨(has_len hl).2 h.1, (hc i (.inr (.inl rfl))).trans h.2.1, Sub.congr hl (fun j hj => hc j (.inl hj)) h.2.2.1, Sub.congr hl (fun j hj => hc j (.inr (.inr hj))) h.2.2.2⟩
/-- Only the root has another Up. -/
theorem Sub.congrUp {t t' : T} (hl : t'.ns.length = t.ns.length) {b : B} {u u' : Int} (hd : b.ids.Nodup) (hc : ∀ j ∈ b.ids, j ≠ b.rid → t'.nd j = t.nd j) (hr : b.rid ≠ -1 → t'.nd b.rid = (t.nd b.rid).setUp u') (h : Sub t b u) : Sub t' b u' := by
  cases b with
  | L => trivial
  | N i c v k =>
    simp only [B.ids] at hd
    rw [List.nodup_append] at hd
    obtain ⟨_, d2, d3⟩ := hd
    obtain ⟨d4, _⟩ := List.nodup_cons.1 d2
    simp only [B.ids, List.mem_append, List.mem_cons] at hc
    have hi : i ≠ -1 := by have := h.1; unfold T.has at this; omega
    refine ⟨(has_len hl).2 h.1, ?_, Sub.congr hl (fun j hj => hc j (.inl hj) (fun e => d3 j hj i (by simp) e)) h.2.2.1, Sub.congr hl (fun j hj => hc j (.inr (.inr hj)) (fun e => d4 (by rw [B.rid] at e; exact e ▸ hj))) h.2.2.2⟩
    have := hr hi
    rw [show (B.N i c v k).rid = i from rfl, h.2.1] at this
    exact this
theorem SubC.congr {t t' : T} (hl : t'.ns.length = t.ns.length) (hr : t'.root = t.root) : {fs : List F} → {x : Int} → (∀ j ∈ idsC fs, t'.nd j = t.nd j) → SubC t fs x → SubC t' fs x
  | [], _, _, h => hr.trans h
  | f :: fs, x, hc, h => by
    simp only [idsC, List.mem_cons, List.mem_append] at hc
    exact ⟨(has_len hl).2 h.1, (hc f.i (.inl rfl)).trans h.2.1, Sub.congr hl (fun j hj => hc j (.inr (.inl hj))) h.2.2.1, SubC.congr hl hr (fun j hj => hc j (.inr (.inr hj))) h.2.2.2⟩
/-- Another one stands at the place. -/
theorem SubC.put {t t' : T} (hl : t'.ns.length = t.ns.length) {fs : List F} {x y : Int} (hd : (idsC fs).Nodup) (hc : ∀ j ∈ idsC fs, j ≠ upOf fs → t'.nd j = t.nd j)
    (hr : t'.root = if upOf fs = -1 then y else t.root) (hu : ∀ f gs, fs = f :: gs → t'.nd f.i = (t.nd f.i).setKid f.s y) (h : SubC t fs x) : SubC t' fs y := by
  cases fs with
  | nil => simpa [upOf, SubC] using hr
  | cons f fs =>
    simp only [idsC] at hd
    obtain ⟨d1, d2⟩ := List.nodup_cons.1 hd
    have hi : f.i ≠ -1 := by have := h.1; unfold T.has at this; omega
    rw [if_neg (show upOf (f :: fs) ≠ -1 from hi)] at hr
    simp only [idsC, List.mem_cons, List.mem_append, upOf] at hc
    refine ⟨(has_len hl).2 h.1, ?_, Sub.congr hl (fun j hj => hc j (.inr (.inl hj)) (fun e => d1 (List.mem_append.2 (.inl (e ▸ hj))))) h.2.2.1, SubC.congr hl hr (fun j hj => hc j (.inr (.inr hj)) (fun e => d1 (List.mem_append.2 (.inr (e ▸ hj))))) h.2.2.2⟩
    rw [hu f fs rfl, h.2.1]
    unfold N.setKid nodeOf
    cases f.s <;> rfl

/-! ### What a place tells -/
theorem Z.side {t : T} {b : B} {f : F} {fs : List F} (h : Z t b (f :: fs)) (hb : b.rid ≠ -1) : t.up b.rid = f.i ∧ t.side b.rid = f.s ∧ t.has b.rid := by
  have hd := h.nod
  cases b with
  | L => exact absurd rfl hb
  | N i c v k =>
    obtain ⟨s1, s2, -⟩ := h.sub
    obtain ⟨c1, c2, -⟩ := h.ctx
    have e1 : t.up i = f.i := by unfold T.up; rw [s2]; rfl
    have hfi : f.i ≠ -1 := by unfold T.has at c1; omega
    refine ⟨e1, ?_, s1⟩
    show t.side i = f.s
    unfold T.side
    rw [e1, decide_eq_true hfi, Bool.true_and]
    have e2 : t.kid f.i true = if f.s then i else f.o.rid := by unfold T.kid N.kid; rw [c2]; rfl
    rw [e2]
    cases hs : f.s
    · simp only [Bool.false_eq_true, if_false, decide_eq_false_iff_not]
      intro e
      cases ho : f.o with
      | L => rw [ho] at e; simp only [B.rid] at e; unfold T.has at s1; omega
      | N j c' v' k' =>
        rw [ho] at e
        simp only [B.rid] at e
        subst e
        rw [List.nodup_append] at hd
        refine hd.2.2 j ?_ j ?_ rfl
        · simp [B.ids]
        · simp [idsC, ho, B.ids]
    · simp
theorem Z.top {t : T} {b : B} (h : Z t b []) : t.root = b.rid ∧ (b.rid ≠ -1 → t.up b.rid = -1) := by
  refine ⟨h.ctx, fun hb => ?_⟩
  cases b with
  | L => exact absurd rfl hb
  | N i c v k => obtain ⟨-, s2, -⟩ := h.sub; show (t.nd i).u = -1; rw [s2]; rfl
end Tr
end Go.Proofs.Ytgjacmkedgbneaa
