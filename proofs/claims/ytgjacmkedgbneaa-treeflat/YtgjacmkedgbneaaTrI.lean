/-
  Plain facts on trees: colors; a right tree is mended to a right one, with the same keys.
-/
import Derived.Test.YtgjacmkedgbneaaTrY
namespace Go.Proofs.Ytgjacmkedgbneaa
namespace Tr
open Wd Tn Ky

/-- No Red one has a Red child, and each way has n that are not Red. -/
def Rb : B → Nat → Prop
  | .L, n => n = 0
  | .N _ true _ k, n => (k false).isRed = false ∧ (k true).isRed = false ∧ Rb (k false) n ∧ Rb (k true) n
  | .N _ false _ k, n => ∃ m, n = m + 1 ∧ Rb (k false) m ∧ Rb (k true) m
theorem Rb_red (s : Bool) (i v : Int) (x o : B) (n : Nat) : Rb (bn s i true v x o) n ↔ x.isRed = false ∧ o.isRed = false ∧ Rb x n ∧ Rb o n := by
  cases s
  · simp [bn, Rb]
  · simp only [bn, Rb, if_true, Bool.false_eq_true, if_false]
    exact ⟨fun h => ⟨h.2.1, h.1, h.2.2.2, h.2.2.1⟩, fun h => ⟨h.2.1, h.1, h.2.2.2, h.2.2.1⟩⟩
theorem Rb_black (s : Bool) (i v : Int) (x o : B) (n : Nat) : Rb (bn s i false v x o) n ↔ ∃ m, n = m + 1 ∧ Rb x m ∧ Rb o m := by
  cases s
  · simp [bn, Rb]
  · simp only [bn, Rb, if_true, Bool.false_eq_true, if_false]
    exact ⟨fun ⟨m, h⟩ => ⟨m, h.1, h.2.2, h.2.1⟩, fun ⟨m, h⟩ => ⟨m, h.1, h.2.2, h.2.1⟩⟩
theorem plain_iff : (b : B) → (b.plain.2 = true ↔ ∃ n, Rb b n) ∧ ∀ n, Rb b n → b.plain = (n, true)
  | .L => ⟨⟨fun _ => ⟨0, rfl⟩, fun _ => rfl⟩, fun n h => by rw [show n = 0 from h]; rfl⟩
  | .N i c v k => by
    have h1 := plain_iff (k false)
    have h2 := plain_iff (k true)
    have key : ∀ n, Rb (.N i c v k) n → (B.N i c v k).plain = (n, true) := fun n h => by
      cases c with
      | true =>
        obtain ⟨r1, r2, r3, r4⟩ := h
        have e1 := h1.2 n r3
        have e2 := h2.2 n r4
        simp [B.plain, e1, e2, r1, r2]
      | false =>
        obtain ⟨m, rfl, r3, r4⟩ := h
        have e1 := h1.2 m r3
        have e2 := h2.2 m r4
        simp [B.plain, e1, e2]
    refine ⟨⟨fun h => ?_, fun ⟨n, h⟩ => by rw [key n h]⟩, key⟩
    simp only [B.plain] at h
    split at h
    · rename_i hh
      obtain ⟨n1, e1⟩ := h1.1.1 hh.1
      obtain ⟨n2, e2⟩ := h2.1.1 hh.2.1
      have q1 := h1.2 n1 e1
      have q2 := h2.2 n2 e2
      have : n1 = n2 := by have := hh.2.2; rw [q1, q2] at this; exact this
      subst this
      cases c with
      | true =>
        simp only [if_true, Bool.and_eq_true, Bool.not_eq_true'] at h
        exact ⟨n1, h.1, h.2, e1, e2⟩
      | false => exact ⟨n1 + 1, n1, rfl, e1, e2⟩
    · cases h
def topRed : List F → Bool
  | [] => false
  | f :: _ => f.c
/-- What stands around a place where each way has n that are not Red. -/
def RbC : List F → Nat → Prop
  | [], _ => True
  | f :: fs, n => Rb f.o n ∧ (f.c = true → f.o.isRed = false ∧ topRed fs = false ∧ fs ≠ []) ∧ RbC fs (if f.c then n else n + 1)
theorem isRed_bn (s : Bool) (i : Int) (c : Bool) (v : Int) (x o : B) : (bn s i c v x o).isRed = c := rfl
theorem Rb_put {f : F} {fs : List F} {b : B} {n : Nat} (hb : Rb b n) (hc : RbC (f :: fs) n) (hr : f.c = true → b.isRed = false) : Rb (f.put b) (if f.c then n else n + 1) := by
  obtain ⟨h1, h2, -⟩ := hc
  unfold F.put
  cases h : f.c with
  | true => exact (Rb_red ..).2 ⟨hr h, (h2 h).1, hb, h1⟩
  | false => exact (Rb_black ..).2 ⟨n, rfl, hb, h1⟩
/-- All of it is right. -/
theorem Rb_plug {fs : List F} : ∀ {b : B} {n : Nat}, Rb b n → RbC fs n → (b.isRed = true → topRed fs = false ∧ fs ≠ []) → (plug b fs).isRed = false ∧ ∃ m, Rb (plug b fs) m := by
  induction fs with
  | nil =>
    intro b n hb _ hr
    refine ⟨?_, n, hb⟩
    cases h : b.isRed with
    | false => exact h
    | true => exact absurd rfl (hr h).2
  | cons f fs ih =>
    intro b n hb hc hr
    have hput := Rb_put hb hc (fun e => by
      cases h : b.isRed with
      | false => rfl
      | true => have := (hr h).1; rw [show topRed (f :: fs) = f.c from rfl, e] at this; cases this)
    exact ih hput hc.2.2 (fun e => (hc.2.1 e).2)
theorem keys_bn (s : Bool) (i : Int) (c : Bool) (v : Int) (x o : B) : (bn s i c v x o).keys = if s then o.keys ++ (v, i) :: x.keys else x.keys ++ (v, i) :: o.keys := by
  cases s <;> simp [bn, B.keys]
theorem keys_turn (s : Bool) (x : Int) (c : Bool) (v : Int) (y : Int) (c' : Bool) (v' : Int) (A M D : B) : (bn s y c' v' (bn s x c v A M) D).keys = (bn s x c v A (bn s y c' v' M D)).keys := by
  cases s <;> simp [keys_bn]
theorem keys_plug {fs : List F} : ∀ {b b' : B}, b'.keys = b.keys → (plug b' fs).keys = (plug b fs).keys := by
  induction fs with
  | nil => intro b b' h; exact h
  | cons f fs ih =>
    intro b b' h
    refine ih ?_
    unfold F.put
    rw [keys_bn, keys_bn, h]
theorem paint_same {t : T} {i : Int} (hi : t.has i) {c : Bool} (h : (t.nd i).red = c) : t.paint i c = t := by
  have e : (t.nd i).setRed c = t.nd i := by rw [← h]; rfl
  unfold T.paint T.put
  rw [e]
  unfold T.has at hi
  have : t.ns.set i.toNat (t.nd i) = t.ns := by
    have hlt : i.toNat < t.ns.length := by omega
    have hnd : t.nd i = t.ns[i.toNat] := by unfold T.nd; simp [List.getD, hlt]
    rw [hnd, List.set_getElem_self]
  rw [this]
theorem redB_of {t : T} {i : Int} (hi : t.has i) : t.redB i = (t.nd i).red := by unfold T.redB; rw [decide_eq_true (has_ne hi), Bool.true_and]

/-- What mending comes to. -/
def Mended (t : T) (x : Int) (ks : List K) : Prop := ∃ (n : Nat) (t' : T) (b' : B), Mend n t x t' ∧ Whole t' b' ∧ b'.isRed = false ∧ (∃ m, Rb b' m) ∧ b'.keys = ks
theorem mend_done {t : T} {b : B} {fs : List F} {n : Nat} (h : Z t b fs) (hr : b.isRed = true) (hb : Rb b n) (hc : RbC fs n) (ht : topRed fs = false) (k : Nat) :
    ∃ (t' : T) (b' : B), Mend k t b.rid t' ∧ Whole t' b' ∧ b'.isRed = false ∧ (∃ m, Rb b' m) ∧ b'.keys = (plug b fs).keys := by
  obtain ⟨i, v, x, o, rfl⟩ : ∃ i v x o, b = bn false i true v x o := by
    cases b with
    | L => cases hr
    | N i c v kk => rw [B.isRed] at hr; subst hr; exact ⟨i, v, kk false, kk true, bn_eta false i true v kk⟩
  have hi : t.has i := ((Sub_bn ..).1 h.sub).1
  have hup : t.up i = upOf fs := by unfold T.up; rw [((Sub_bn ..).1 h.sub).2.1]; exact (nodeOf_kid ..).2.2.1
  cases fs with
  | nil =>
    have hroot : t.root = i := h.ctx
    obtain ⟨q1, q2, q3, q4⟩ := (Rb_red ..).1 hb
    refine ⟨t.paint t.root false, bn false i false v x o, .done k t i hi (by rw [hup]; exact .inl rfl) (by rw [hup]; rfl) (by rw [hroot]; exact hi), ?_, rfl, ⟨n + 1, (Rb_black ..).2 ⟨n, rfl, q3, q4⟩⟩, ?_⟩
    · rw [hroot, ← Z_whole]; exact h.paint false
    · show (bn false i false v x o).keys = (bn false i true v x o).keys
      rw [keys_bn, keys_bn]
  | cons f fs =>
    have hfc : f.c = false := ht
    have hw := (Z_plug t _ (f :: fs)).1 h
    obtain ⟨hpr, m, hpm⟩ := Rb_plug hb hc (fun _ => ⟨ht, by simp⟩)
    have hfh : t.has f.i := h.ctx.1
    have hfr : t.redB f.i = false := by rw [redB_of hfh, h.ctx.2.1, (nodeOf_kid ..).2.2.2]; exact hfc
    generalize hpl : plug (bn false i true v x o) (f :: fs) = b' at hw hpr hpm
    have hnl : t.has t.root := by
      rw [hw.root]
      refine hw.sub.ok.resolve_left (fun e => ?_)
      cases b' with
      | N i' c' v' k' => have := hw.sub.1; exact has_ne this e
      | L =>
        have := hw.rest i hi (by simp [B.ids])
        have h2 := ((Sub_bn ..).1 h.sub).2.1
        rw [h2] at this
        have h3 : (nodeOf false true v x.rid o.rid (upOf (f :: fs))).inn = nE.inn := by rw [this]
        cases h3
    have hrr : (t.nd t.root).red = false := by rw [← redB_of hnl, hw.root, hw.sub.red]; exact hpr
    refine ⟨t.paint t.root false, b', .done k t i hi (by rw [hup]; exact .inr hfh) (by rw [hup]; exact hfr) hnl, ?_, hpr, ⟨m, hpm⟩, by rw [← hpl]⟩
    rw [paint_same hnl hrr]
    exact hw
end Tr
end Go.Proofs.Ytgjacmkedgbneaa
