/-
  Plain facts on trees: with all times turned on, what is done to a tree comes to the same shape.
  Plain facts on trees: what Insert and Delete tell of a tree that is turned on.
  The contract of the laws' turned.
  TreeTurns returns true at every input, and turns nothing that was there: with all times, and the least one, turned on by the same, a tree's shape comes out the same.
-/
import Derived.Test.YtgjacmkedgbneaaTrO
import Derived.Test.YtgjacmkedgbneaaTrX
import Derived.Test.YtgjacmkedgbneaaTwP
import Derived.Test.YtgjacmkedgbneaaTyG
import Derived.Deep.DeepCutAuto
import Derived.Test.YtgjacmkedgbneaaTyU
import Derived.Deep.RegionHeld3
namespace Go.Proofs.Ytgjacmkedgbneaa
namespace Tr
open Wd Tn Ky

/-- A node turned on. -/
def tN (d : Int) (n : N) : N := if n.inn then { n with v := IntKind.u64.wrap (n.v + d) } else n
/-- A tree turned on. -/
def tT (d : Int) (t : T) : T := ⟨t.root, t.ns.map (tN d)⟩
section
variable (d : Int)
theorem tN_nE : tN d nE = nE := rfl
theorem tN_inn (n : N) : (tN d n).inn = n.inn := by unfold tN; split <;> rfl
theorem tN_red (n : N) : (tN d n).red = n.red := by unfold tN; split <;> rfl
theorem tN_l (n : N) : (tN d n).l = n.l := by unfold tN; split <;> rfl
theorem tN_r (n : N) : (tN d n).r = n.r := by unfold tN; split <;> rfl
theorem tN_u (n : N) : (tN d n).u = n.u := by unfold tN; split <;> rfl
theorem tN_kid (n : N) (s : Bool) : (tN d n).kid s = n.kid s := by unfold N.kid; rw [tN_l, tN_r]
theorem tN_setKid (n : N) (s : Bool) (y : Int) : tN d (n.setKid s y) = (tN d n).setKid s y := by
  cases s <;> (unfold tN N.setKid; by_cases h : n.inn <;> simp [h])
theorem tN_setUp (n : N) (y : Int) : tN d (n.setUp y) = (tN d n).setUp y := by
  unfold tN N.setUp; by_cases h : n.inn <;> simp [h]
theorem tN_setRed (n : N) (b : Bool) : tN d (n.setRed b) = (tN d n).setRed b := by
  unfold tN N.setRed; by_cases h : n.inn <;> simp [h]
theorem tT_root (t : T) : (tT d t).root = t.root := rfl
theorem tT_len (t : T) : (tT d t).ns.length = t.ns.length := by simp [tT]
theorem tT_has (t : T) (i : Int) : (tT d t).has i ↔ t.has i := has_len (tT_len d t)
theorem tT_ok (t : T) (i : Int) : (tT d t).ok i ↔ t.ok i := ok_len (tT_len d t)
theorem tT_nd (t : T) (i : Int) : (tT d t).nd i = tN d (t.nd i) := by
  unfold T.nd tT
  simp only [List.getD, List.getElem?_map]
  cases t.ns[i.toNat]? <;> rfl
theorem tT_kid (t : T) (i : Int) (s : Bool) : (tT d t).kid i s = t.kid i s := by unfold T.kid; rw [tT_nd, tN_kid]
theorem tT_up (t : T) (i : Int) : (tT d t).up i = t.up i := by unfold T.up; rw [tT_nd, tN_u]
theorem tT_redB (t : T) (i : Int) : (tT d t).redB i = t.redB i := by unfold T.redB; rw [tT_nd, tN_red]
theorem tT_side (t : T) (i : Int) : (tT d t).side i = t.side i := by unfold T.side; rw [tT_up, tT_kid]
theorem tT_put (t : T) (i : Int) (n : N) : tT d (t.put i n) = (tT d t).put i (tN d n) := by unfold tT T.put; simp [List.map_set]
theorem tT_setKid (t : T) (u : Int) (s : Bool) (y : Int) : tT d (t.setKid u s y) = (tT d t).setKid u s y := by
  unfold T.setKid
  split
  · rfl
  · rw [tT_put, tN_setKid, tT_nd]
theorem tT_setUp (t : T) (y u : Int) : tT d (t.setUp y u) = (tT d t).setUp y u := by
  unfold T.setUp
  split
  · rfl
  · rw [tT_put, tN_setUp, tT_nd]
theorem tT_hang (t : T) (u : Int) (s : Bool) (y : Int) : tT d (t.hang u s y) = (tT d t).hang u s y := by unfold T.hang; rw [tT_setUp, tT_setKid]
theorem tT_paint (t : T) (i : Int) (b : Bool) : tT d (t.paint i b) = (tT d t).paint i b := by unfold T.paint; rw [tT_put, tN_setRed, tT_nd]
theorem tT_turn (t : T) (x : Int) (s : Bool) : tT d (t.turn x s) = (tT d t).turn x s := by
  unfold T.turn
  rw [tT_hang, tT_hang, tT_hang, tT_kid, tT_kid, tT_up, tT_side]
theorem tT_turnOk {t : T} {x : Int} {s : Bool} (h : TurnOk t x s) : TurnOk (tT d t) x s :=
  ⟨(tT_has d t x).2 h.hx, by rw [tT_up]; exact (tT_ok d t _).2 h.hu, by rw [tT_kid]; exact (tT_has d t _).2 h.hr, by rw [tT_kid, tT_kid]; exact (tT_ok d t _).2 h.hk⟩
theorem tT_mend {n : Nat} {t t' : T} {x : Int} (h : Mend n t x t') : Mend n (tT d t) x (tT d t') := by
  induction h with
  | done n t x hx hu hr h0 =>
    rw [tT_paint]
    exact .done n _ x ((tT_has d t x).2 hx) (by rw [tT_up]; exact (tT_ok d t _).2 hu) (by rw [tT_up, tT_redB]; exact hr) ((tT_has d t _).2 h0)
  | up n t t' x p g u s hx ep hp rp eg hg es eu hu ru rest ih =>
    rw [tT_paint, tT_paint, tT_paint] at ih
    exact .up n _ _ x p g u s ((tT_has d t x).2 hx) (by rw [tT_up, ep]) ((tT_has d t p).2 hp) (by rw [tT_redB, rp]) (by rw [tT_up, eg]) ((tT_has d t g).2 hg) (by rw [tT_side, es]) (by rw [tT_kid, eu]) ((tT_has d t u).2 hu) (by rw [tT_redB, ru]) ih
  | out n t t' x p g u s hx ep hp rp eg hg es eu hu ru ex nx ht rest ih =>
    have ht' := tT_turnOk d ht
    rw [tT_paint, tT_paint] at ht'
    rw [tT_turn, tT_paint, tT_paint] at ih
    exact .out n _ _ x p g u s ((tT_has d t x).2 hx) (by rw [tT_up, ep]) ((tT_has d t p).2 hp) (by rw [tT_redB, rp]) (by rw [tT_up, eg]) ((tT_has d t g).2 hg) (by rw [tT_side, es]) (by rw [tT_kid, eu]) ((tT_ok d t u).2 hu) (by rw [tT_redB, ru]) (by rw [tT_side, ex]) (by rw [tT_kid]; exact nx) ht' ih
  | inn n t t' x p g u s hx ep hp rp eg hg es eu hu ru ex nx h1 e1 ht rest ih =>
    have ht' := tT_turnOk d ht
    rw [tT_paint, tT_paint, tT_turn] at ht'
    rw [tT_turn, tT_paint, tT_paint, tT_turn] at ih
    exact .inn n _ _ x p g u s ((tT_has d t x).2 hx) (by rw [tT_up, ep]) ((tT_has d t p).2 hp) (by rw [tT_redB, rp]) (by rw [tT_up, eg]) ((tT_has d t g).2 hg) (by rw [tT_side, es]) (by rw [tT_kid, eu]) ((tT_ok d t u).2 hu) (by rw [tT_redB, ru]) (by rw [tT_side, ex]) (by rw [tT_kid]; exact nx) (tT_turnOk d h1) (by rw [← tT_turn, tT_up]; exact e1) ht' ih
theorem tT_setFar {t t' : T} {p : Int} {s : Bool} (h : SetFar t p s t') : SetFar (tT d t) p s (tT d t') := by
  obtain ⟨v, f, h1, h2, h3, h4, h5, h6, rfl⟩ := h
  have h6' := tT_turnOk d h6
  rw [tT_paint, tT_paint, tT_paint] at h6'
  refine ⟨v, f, (tT_has d t p).2 h1, by rw [tT_kid, h2], (tT_has d t v).2 h3, by rw [tT_kid, h4], (tT_has d t f).2 h5, by rw [tT_nd, tN_red]; exact h6', ?_⟩
  rw [tT_turn, tT_paint, tT_paint, tT_paint, tT_nd, tN_red]
theorem tT_settle {t t' : T} {p : Int} {s : Bool} (h : Settle t p s t') : Settle (tT d t) p s (tT d t') := by
  obtain ⟨v, f, h1, h2, h3, h4, h5, h6⟩ := h
  refine ⟨v, f, (tT_has d t p).2 h1, by rw [tT_kid, h2], (tT_has d t v).2 h3, by rw [tT_kid, h4], (tT_ok d t f).2 h5, ?_⟩
  rcases h6 with ⟨r, hs⟩ | ⟨r, c, ec, hc, ht, hs⟩
  · exact .inl ⟨by rw [tT_redB, r], tT_setFar d hs⟩
  · have ht' := tT_turnOk d ht
    have hs' := tT_setFar d hs
    rw [tT_paint, tT_paint] at ht'
    rw [tT_turn, tT_paint, tT_paint] at hs'
    exact .inr ⟨by rw [tT_redB, r], c, by rw [tT_kid, ec], (tT_has d t c).2 hc, ht', hs'⟩
theorem tT_fill {n : Nat} {t t' : T} {u : Int} {s : Bool} (h : Fill n t u s t') : Fill n (tT d t) u s (tT d t') := by
  induction h with
  | root n t s h0 =>
    have e : tT d (if t.root = -1 then t else t.paint t.root false) = if (tT d t).root = -1 then tT d t else (tT d t).paint (tT d t).root false := by
      rw [tT_root]
      split
      · rfl
      · rw [tT_paint]
    rw [e]
    exact .root n _ s ((tT_ok d t _).2 h0)
  | redp n t u y s hu ey hy ry =>
    rw [tT_paint]
    exact .redp n _ u y s ((tT_has d t u).2 hu) (by rw [tT_kid, ey]) ((tT_has d t y).2 hy) (by rw [tT_redB, ry])
  | turn n t t' u v s hu hk rk ev hv rv ht r2 r1 rest ih =>
    have ht' := tT_turnOk d ht
    have e : tT d (((t.paint v false).paint u true).turn u s) = (((tT d t).paint v false).paint u true).turn u s := by rw [tT_turn, tT_paint, tT_paint]
    rw [tT_paint, tT_paint] at ht'
    rw [e] at ih
    refine .turn n _ _ u v s ((tT_has d t u).2 hu) (by rw [tT_kid]; exact (tT_ok d t _).2 hk) (by rw [tT_kid, tT_redB]; exact rk) (by rw [tT_kid, ev]) ((tT_has d t v).2 hv) (by rw [tT_redB, rv]) ht' ?_ ?_ ih
    · rw [← e, tT_kid, tT_redB]; exact r2
    · rw [← e, tT_kid, tT_redB]; exact r1
  | settle n t t' u v s hu hk rk ev hv rv ol or rr hs =>
    exact .settle n _ _ u v s ((tT_has d t u).2 hu) (by rw [tT_kid]; exact (tT_ok d t _).2 hk) (by rw [tT_kid, tT_redB]; exact rk) (by rw [tT_kid, ev]) ((tT_has d t v).2 hv) (by rw [tT_redB, rv]) (by rw [tT_kid]; exact (tT_ok d t _).2 ol) (by rw [tT_kid]; exact (tT_ok d t _).2 or) (by rw [tT_kid, tT_kid, tT_redB, tT_redB]; exact rr) (tT_settle d hs)
  | up n t t' u v s hu hk rk ev hv rv ol or rr hp rest ih =>
    have e : tT d (t.paint v true) = (tT d t).paint v true := tT_paint d t v true
    rw [e] at ih
    refine .up n _ _ u v s ((tT_has d t u).2 hu) (by rw [tT_kid]; exact (tT_ok d t _).2 hk) (by rw [tT_kid, tT_redB]; exact rk) (by rw [tT_kid, ev]) ((tT_has d t v).2 hv) (by rw [tT_redB, rv]) (by rw [tT_kid]; exact (tT_ok d t _).2 ol) (by rw [tT_kid]; exact (tT_ok d t _).2 or) (by rw [tT_kid, tT_kid, tT_redB, tT_redB]; exact rr) (by rw [← e, tT_up]; exact (tT_ok d _ _).2 hp) ?_
    rw [← e, tT_up, tT_side]
    rw [← e] at ih
    exact ih
theorem tT_leftmost {t : T} {n : Nat} {y y' : Int} (h : Leftmost t n y y') : Leftmost (tT d t) n y y' := by
  induction h with
  | stop n y hy hl => exact .stop n y ((tT_has d t y).2 hy) (by rw [tT_kid, hl])
  | step n y y' hy hne rest ih => exact .step n y y' ((tT_has d t y).2 hy) (by rw [tT_kid]; exact hne) (by rw [tT_kid]; exact ih)
theorem tT_rep1 (t : T) (y : Int) : tT d (rep1 t y) = rep1 (tT d t) y := by unfold rep1; rw [tT_hang, tT_up, tT_side, tT_kid]
theorem tT_rep2 (t : T) (z y : Int) : tT d (rep2 t z y) = rep2 (tT d t) z y := by unfold rep2; rw [tT_hang, ← tT_rep1, tT_up, tT_side]
theorem tT_rep3 (t : T) (z y : Int) : tT d (rep3 t z y) = rep3 (tT d t) z y := by unfold rep3; rw [tT_hang, ← tT_rep2, tT_kid]
theorem tT_rep4 (t : T) (z y : Int) : tT d (rep4 t z y) = rep4 (tT d t) z y := by unfold rep4; rw [tT_hang, ← tT_rep3, tT_kid]
theorem tT_rep5 (t : T) (z y : Int) : tT d (rep5 t z y) = rep5 (tT d t) z y := by unfold rep5; rw [tT_paint, ← tT_rep4, tT_nd, tN_red]
theorem tT_out {t t1 : T} {z u : Int} {g s : Bool} (h : Out t z t1 g u s) : Out (tT d t) z (tT d t1) g u s := by
  cases h with
  | left hl hr =>
    have := Out.left (t := tT d t) (z := z) (by rw [tT_kid, hl]) (by rw [tT_kid]; exact (tT_ok d t _).2 hr)
    rw [tT_up, tT_side, tT_kid, tT_nd, tN_red] at this
    rw [tT_hang]
    exact this
  | right hl hl' hr =>
    have := Out.right (t := tT d t) (z := z) (by rw [tT_kid]; exact hl) (by rw [tT_kid]; exact (tT_ok d t _).2 hl') (by rw [tT_kid, hr])
    rw [tT_up, tT_side, tT_kid, tT_nd, tN_red] at this
    rw [tT_hang]
    exact this
  | both n y hl hr hm ho =>
    have ho' : RepOk (tT d t) z y := ⟨(tT_has d t z).2 ho.hz, (tT_has d t y).2 ho.hy, by rw [tT_up]; exact (tT_ok d t _).2 ho.hu, by rw [tT_kid]; exact (tT_ok d t _).2 ho.hr, by rw [← tT_rep1, tT_up]; exact (tT_ok d _ _).2 ho.uz, by rw [← tT_rep2, tT_kid]; exact (tT_ok d _ _).2 ho.kl, by rw [← tT_rep3, tT_kid]; exact (tT_ok d _ _).2 ho.kr⟩
    have := Out.both (t := tT d t) (z := z) n y (by rw [tT_kid]; exact hl) (by rw [tT_kid]; exact hr) (by rw [tT_kid]; exact tT_leftmost d hm) ho'
    rw [tT_up, tT_side, tT_nd, tN_red, ← tT_rep5] at this
    exact this
theorem tT_remove {t t' : T} {z : Int} (h : Remove t z t') : Remove (tT d t) z (tT d t') := by
  obtain ⟨hz, hu, t1, g, u, s, ho, hf⟩ := h
  refine ⟨(tT_has d t z).2 hz, by rw [tT_up]; exact (tT_ok d t _).2 hu, tT d t1, g, u, s, tT_out d ho, ?_⟩
  rcases hf with ⟨hg, rfl⟩ | ⟨hg, n, hf⟩
  · exact .inl ⟨hg, by rw [tT_put, tN_nE]⟩
  · have := tT_fill d hf
    rw [tT_put, tN_nE] at this
    exact .inr ⟨hg, n, this⟩
end
end Tr
end Go.Proofs.Ytgjacmkedgbneaa

namespace Go.Proofs.Ytgjacmkedgbneaa
namespace Tr
open Wd Tn Ky

/-- A key turned on. -/
def tK (d : Int) (k : K) : K := (IntKind.u64.wrap (k.1 + d), k.2)
theorem lag_on (v m d : Int) : lagN (IntKind.u64.wrap (v + d)) (IntKind.u64.wrap (m + d)) = lagN v m := by
  unfold lagN M
  rw [IntKind.wrap_u64, IntKind.wrap_u64]
  omega
theorem ltK_on (m : Int) (a b : K) (d : Int) : ltK (IntKind.u64.wrap (m + d)) (tK d a) (tK d b) = ltK m a b := by
  unfold ltK tK
  simp only [lag_on]
theorem okK_on {m : Int} {l : List K} (h : okK m l) (d : Int) : okK (IntKind.u64.wrap (m + d)) (l.map (tK d)) := by
  unfold okK at *
  rw [List.pairwise_map]
  exact h.imp fun {a b} hab => ⟨by rw [ltK_on]; exact hab.1, hab.2⟩
/-- A tree as one, turned on. -/
def tB (d : Int) : B → B
  | .L => .L
  | .N i c v k => .N i c (IntKind.u64.wrap (v + d)) fun s => tB d (k s)
section
variable (d : Int)
theorem tB_rid (b : B) : (tB d b).rid = b.rid := by cases b <;> rfl
theorem tB_isRed (b : B) : (tB d b).isRed = b.isRed := by cases b <;> rfl
theorem tB_ids : (b : B) → (tB d b).ids = b.ids
  | .L => rfl
  | .N i c v k => by simp only [tB, B.ids]; rw [tB_ids (k false), tB_ids (k true)]
theorem tB_keys : (b : B) → (tB d b).keys = b.keys.map (tK d)
  | .L => rfl
  | .N i c v k => by simp only [tB, B.keys, List.map_append, List.map_cons]; rw [tB_keys (k false), tB_keys (k true)]; rfl
theorem tB_plain : (b : B) → (tB d b).plain = b.plain
  | .L => rfl
  | .N i c v k => by simp only [tB, B.plain]; rw [tB_plain (k false), tB_plain (k true), tB_isRed, tB_isRed]
theorem tT_sub {t : T} : {b : B} → {u : Int} → Sub t b u → Sub (tT d t) (tB d b) u
  | .L, _, _ => trivial
  | .N i c v k, u, h => by
    obtain ⟨h1, h2, h3, h4⟩ := h
    refine ⟨(tT_has d t i).2 h1, ?_, tT_sub h3, tT_sub h4⟩
    rw [tT_nd, h2, tB_rid, tB_rid]
    rfl
theorem tT_whole {t : T} {b : B} (h : Whole t b) : Whole (tT d t) (tB d b) :=
  ⟨by rw [tT_len]; exact h.len, by rw [tB_rid]; exact h.root, tT_sub d h.sub, by rw [tB_ids]; exact h.nod, fun i hi hn => by
    rw [tB_ids] at hn
    rw [tT_nd, h.rest i ((tT_has d t i).1 hi) hn]
    rfl⟩
theorem tT_right {m : Int} {t : T} (h : RightP m t) : RightP (IntKind.u64.wrap (m + d)) (tT d t) := by
  obtain ⟨b, hw, r1, r2, r3⟩ := h
  exact ⟨tB d b, tT_whole d hw, by rw [tB_isRed]; exact r1, by rw [tB_keys]; exact okK_on r2 d, by rw [tB_plain]; exact r3⟩
theorem Sub.kidIn {t : T} : {b : B} → {u : Int} → Sub t b u → ∀ i ∈ b.ids, ∀ s, t.kid i s = -1 ∨ t.kid i s ∈ b.ids
  | .L, _, _, i, hi, _ => by cases hi
  | .N j c v k, u, h, i, hi, s => by
    obtain ⟨h1, h2, h3, h4⟩ := h
    simp only [B.ids, List.mem_append, List.mem_cons] at hi ⊢
    rcases hi with hi | rfl | hi
    · rcases Sub.kidIn h3 i hi s with e | e
      · exact .inl e
      · exact .inr (.inl e)
    · have mem : ∀ b : B, b.rid = -1 ∨ b.rid ∈ b.ids := fun b => by
        cases b with
        | L => exact .inl rfl
        | N i c v k => exact .inr (by simp [B.rid, B.ids])
      unfold T.kid
      rw [h2]
      cases s with
      | false =>
        rcases mem (k false) with e | e
        · exact .inl e
        · exact .inr (.inl e)
      | true =>
        rcases mem (k true) with e | e
        · exact .inl e
        · exact .inr (.inr (.inr e))
    · rcases Sub.kidIn h4 i hi s with e | e
      · exact .inl e
      · exact .inr (.inr (.inr e))
theorem tT_down {m : Int} {k : K} {t : T} {b : B} (hw : Whole t b) {n : Nat} {x u u' : Int} {s s' : Bool} (h : Down m k t n x u s u' s') : (x = -1 ∨ x ∈ b.ids) → Down (IntKind.u64.wrap (m + d)) (tK d k) (tT d t) n x u s u' s' := by
  induction h with
  | stop n u s hu => intro _; exact .stop n u s ((tT_ok d t u).2 hu)
  | step n x u u' s s' hx rest ih =>
    intro hi
    have hxi : x ∈ b.ids := hi.resolve_left (has_ne hx)
    have hin := (hw.sub.has x hxi).2
    have hkey : (tT d t).key x = tK d (t.key x) := by
      unfold T.key tK
      rw [tT_nd]
      unfold tN
      rw [if_pos hin]
    have e : ltK (IntKind.u64.wrap (m + d)) (tK d k) ((tT d t).key x) = ltK m k (t.key x) := by rw [hkey, ltK_on]
    refine .step n x u u' s s' ((tT_has d t x).2 hx) ?_
    rw [e, tT_kid]
    exact ih (hw.sub.kidIn x hxi _)
theorem tT_nil : tT d ⟨0, []⟩ = ⟨0, []⟩ := rfl
theorem tT_ins {m : Int} {k : K} {t t' : T} {e : Int} (hr : RightP m t) (h : Ins m k t t' e) : Ins (IntKind.u64.wrap (m + d)) (tK d k) (tT d t) (tT d t') e := by
  cases h with
  | order h => exact absurd hr h
  | arg h hk =>
    refine Ins.arg (k := tK d k) (tT_right d h) ?_
    rcases hk with hk | hk
    · exact .inl (fun w => hk ((tT_has d t _).1 w))
    · exact .inr (by show ((tT d t).nd k.2).inn = true; rw [tT_nd, tN_inn]; exact hk)
  | done h hk hi n n2 u s t' hd hm =>
    obtain ⟨b, hw, -⟩ := h
    have hm' := tT_mend d hm
    rw [tT_hang, tT_put] at hm'
    refine Ins.done (k := tK d k) (tT_right d hr) (show (tT d t).has k.2 from (tT_has d t _).2 hk) (by show ((tT d t).nd k.2).inn = false; rw [tT_nd, tN_inn]; exact hi) n n2 u s _ (tT_down d hw hd ?_) hm'
    rw [tT_root, hw.root]
    cases b with
    | L => exact .inl rfl
    | N i c v k => exact .inr (by simp [B.rid, B.ids])
theorem tT_del {m z : Int} {t t' : T} {e : Int} (hr : RightP m t) (h : Del m z t t' e) : Del (IntKind.u64.wrap (m + d)) z (tT d t) (tT d t') e := by
  cases h with
  | order h => exact absurd hr h
  | arg h hk => exact .arg (tT_right d h) (fun w => hk ((tT_has d t _).1 w))
  | idle h hk hi => exact .idle (tT_right d h) ((tT_has d t _).2 hk) (by rw [tT_nd, tN_inn]; exact hi)
  | done h hk hi t' hm => exact .done (tT_right d h) ((tT_has d t _).2 hk) (by rw [tT_nd, tN_inn]; exact hi) _ (tT_remove d hm)
end
end Tr
end Go.Proofs.Ytgjacmkedgbneaa

namespace Go.Proofs.Ytgjacmkedgbneaa
open Go.RowKit Go.Sort Ky Wd Tn Tr

theorem tN_U {d : Int} {n : N} (h : U n.v) : U (tN d n).v := by
  unfold tN
  split
  · exact U_wrap _
  · exact h
theorem OwnN.cell {w : World} {B : Nat} {e : TypeId} {v : Value} {l : List N} (h : OwnN w B e v l) {q : Addr} {x : Value} (hq : ∀ g, v.ownBlock = some g → g < q.block) : OwnN (w.setCell q x) B e v l := by
  refine ⟨h.1, ?_⟩
  rcases h.2 with h0 | ⟨g, cap, cur, rfl, hg, hh, rest⟩
  · exact .inl h0
  · have : g < q.block := hq g rfl
    exact .inr ⟨g, cap, cur, rfl, hg, (Below.heap_setCell _ _ _ _ (by omega)).trans hh, rest⟩
theorem OwnN.fresh {w : World} {B : Nat} {e : TypeId} {v : Value} {l : List N} (h : OwnN w B e v l) : Fresh B v := by
  intro a n c e'
  rcases h.2 with ⟨rfl, -⟩ | ⟨g, cap, cur, rfl, hg, -⟩
  · cases e'
  · simp only [Value.slice.injEq, Option.some.injEq] at e'
    rw [← e'.1]
    exact hg
/-- The boxes of turned: the tree that came, the result, the tree that is made. -/
structure Uy (W w : World) (v : Value) (t : T) (j : Nat) (d : Int) : Prop where
  tb : Tb w W.heap.size t.root v 24
  rb : Tb w (W.heap.size + 1) 0 (.slice none 0 0) 24
  ub : ∃ a c, Tb w (W.heap.size + 2) t.root (.slice a j c) 24 ∧ OwnN w (W.heap.size + 3) 57 (.slice a j c) ((t.ns.map (tN d)).take j)
  bl : Below W.heap.size W w

set_option maxHeartbeats 8000000 in
set_option maxRecDepth 100000 in
theorem turned_at {W : World} {v : Value} {t : T} (hN : Nds W v t.ns) (hl : t.ns.length ≤ 1000) (d : Int) :
    Calls Try.prog 31 #[.agg #[.int .i64 t.root, v], .int .u64 d] W fun e w' => ∃ a c, e = .returned (.agg #[.int .i64 t.root, .slice a t.ns.length c]) ∧ Nds w' (.slice a t.ns.length c) (tT d t).ns ∧ Below W.heap.size W w' := by
  have HN := Lib.hid hN
  obtain ⟨a, cap, rfl, hl1, hl2⟩ := hN.len
  have HBX := Lib.hid (Bx.start hN)
  unfold maxLen at hl2
  clear hN
  go_enter Try.func31, Try.ntmps31
  go_upto_region 1 with fail
  have HSZ : Hid (((W.alloc (.cells #[.int .i64 t.root, .slice a t.ns.length cap] 24)).alloc (.cells #[.int .i64 0, .slice none 0 0] 24)).heap.size = W.heap.size + 2) := Lib.hid (by simp)
  generalize (W.alloc (.cells #[.int .i64 t.root, .slice a t.ns.length cap] 24)).alloc (.cells #[.int .i64 0, .slice none 0 0] 24) = w1 at HBX HSZ ⊢
  obtain ⟨x0, x1, -, -⟩ := HBX.out.tb.all
  have HUB := Lib.hid (Tb.new w1 t.root (.slice none 0 0) 24)
  rw [HSZ.out] at HUB
  have HB2 := Lib.hid (HBX.out.gr (Gr.alloc w1 (.cells #[.int .i64 t.root, .slice none 0 0] 24)))
  have HY2 : Hid (Uy W (w1.alloc (.cells #[.int .i64 t.root, .slice none 0 0] 24)) (.slice a t.ns.length cap) t 0 d) := Lib.hid ⟨HB2.out.tb, HB2.out.rb, ⟨none, 0, HUB.out, by rw [List.take_zero]; exact OwnN.nil _ _ _⟩, HB2.out.bl⟩
  go_upto_region 3 with fail
  generalize hq : w1.heap.size = q at HSZ ⊢
  have hqq : q = W.heap.size + 2 := HSZ.out
  subst hqq
  clear x0 x1 HBX HUB HB2 hq
  generalize w1.alloc (.cells #[.int .i64 t.root, .slice none 0 0] 24) = w2 at HY2 ⊢
  go_loopw [6] (fun i wr => ∃ j : Nat, j ≤ t.ns.length ∧ i = .int .i64 j ∧ Hid (Uy W wr (.slice a t.ns.length cap) t j d)) (fun i _ => t.ns.length - (intOf i).toNat)
  case atStart => exact ⟨0, by omega, rfl, HY2⟩
  case round =>
    obtain ⟨j, hj, rfl, HJ⟩ := hrel
    clear HY2
    obtain ⟨x0, x1, -, -⟩ := HJ.out.tb.all
    obtain ⟨au, cu, hU, hO⟩ := HJ.out.ub
    have HU := Lib.hid hU
    have HO := Lib.hid hO
    clear hU hO
    by_cases hlt : j < t.ns.length
    · obtain ⟨nb, off, cap', he, -, -, -⟩ := HN.out.at hlt
      simp only [Value.slice.injEq] at he
      obtain ⟨rfl, -, rfl⟩ := he
      obtain ⟨m0, m1, m2, m3, m4, m5⟩ := (HN.out.below HJ.out.bl).nc hlt
      obtain ⟨n, hn⟩ : ∃ n, t.ns.getD j nE = n := ⟨_, rfl⟩
      have HUV : Hid (U n.v) := Lib.hid (by rw [← hn]; exact HN.out.us _ (by simp [List.getD, hlt]))
      rw [hn] at m0 m1 m2 m3 m4 m5
      have HTK : Hid ((t.ns.map (tN d)).take j ++ [tN d n] = (t.ns.map (tN d)).take (j + 1)) := Lib.hid (by
        rw [List.take_succ_eq_append_getElem (by simpa using hlt), ← hn]
        simp [List.getD, hlt])
      have hjl : (j : Int) < t.ns.length := by omega
      have HNF := Lib.hid (Nb.fresh wr n)
      have HTb := Lib.hid (HJ.out.tb.below (Gr.alloc wr (.cells #[.bool n.inn, .bool n.red, .int .u64 n.v, .int .i64 n.l, .int .i64 n.r, .int .i64 n.u] 57)).below HJ.out.tb.lt)
      have HRb := Lib.hid (HJ.out.rb.below (Gr.alloc wr (.cells #[.bool n.inn, .bool n.red, .int .u64 n.v, .int .i64 n.l, .int .i64 n.r, .int .i64 n.u] 57)).below HJ.out.rb.lt)
      have HUb := Lib.hid (HU.out.below (Gr.alloc wr (.cells #[.bool n.inn, .bool n.red, .int .u64 n.v, .int .i64 n.l, .int .i64 n.r, .int .i64 n.u] 57)).below HU.out.lt)
      have HOb := Lib.hid (HO.out.alloc (.cells #[.bool n.inn, .bool n.red, .int .u64 n.v, .int .i64 n.l, .int .i64 n.r, .int .i64 n.u] 57))
      have HBl := Lib.hid (HJ.out.bl.alloc HJ.out.bl.size (.cells #[.bool n.inn, .bool n.red, .int .u64 n.v, .int .i64 n.l, .int .i64 n.r, .int .i64 n.u] 57))
      have HQ : Hid (W.heap.size + 3 ≤ wr.heap.size) := Lib.hid HU.out.lt
      have HQ1 : Hid (wr.heap.size < (wr.alloc (.cells #[.bool n.inn, .bool n.red, .int .u64 n.v, .int .i64 n.l, .int .i64 n.r, .int .i64 n.u] 57)).heap.size) := Lib.hid (by simp)
      have HOQ : Hid (∀ g, (Value.slice au j cu).ownBlock = some g → g < wr.heap.size) := Lib.hid (fun g hg => (World.ownsRow.lt HO.out g hg).2)
      clear hn HJ HU HO
      go_upto_region 6 with fail
      clear x0 x1 m0 m1 m2 m3 m4 m5
      generalize hq3 : wr.heap.size = qn at HNF HQ HQ1 HOQ ⊢
      clear hq3
      generalize wr.alloc (.cells #[.bool n.inn, .bool n.red, .int .u64 n.v, .int .i64 n.l, .int .i64 n.r, .int .i64 n.u] 57) = w3 at HNF HTb HRb HUb HOb HBl HQ1 ⊢
      obtain ⟨n0, n1, n2, n3, n4, n5⟩ := HNF.out.six
      have fr := HNF.out.frozen 2
      have HUN : Hid (U (tN d n).v) := Lib.hid (tN_U HUV.out)
      go_upto_if 24 with fail
      go_cut [] (fun wx => Hid (Nb wx qn [tN d n] ∧ Tb wx W.heap.size t.root (.slice (some ⟨nb, off, none⟩) t.ns.length cap) 24 ∧ Tb wx (W.heap.size + 1) 0 (.slice none 0 0) 24 ∧ Tb wx (W.heap.size + 2) t.root (.slice au j cu) 24 ∧ OwnN wx (W.heap.size + 3) 57 (.slice au j cu) ((t.ns.map (tN d)).take j) ∧ Below W.heap.size W wx ∧ qn < wx.heap.size))
      case first =>
        cases hin : n.inn with
        | true =>
          have HEQ : Hid (tN d n = { n with v := IntKind.u64.wrap (n.v + d) }) := Lib.hid (by unfold tN; rw [if_pos hin])
          have hc : (cellsN1 n).set 2 (.int .u64 (IntKind.u64.wrap (n.v + d))) = cellsN1 { n with v := IntKind.u64.wrap (n.v + d) } := rfl
          have HEND : Hid (Nb (w3.setCell ⟨qn, 2, none⟩ (.int .u64 (IntKind.u64.wrap (n.v + d)))) qn [tN d n] ∧ Tb (w3.setCell ⟨qn, 2, none⟩ (.int .u64 (IntKind.u64.wrap (n.v + d)))) W.heap.size t.root (.slice (some ⟨nb, off, none⟩) t.ns.length cap) 24 ∧ Tb (w3.setCell ⟨qn, 2, none⟩ (.int .u64 (IntKind.u64.wrap (n.v + d)))) (W.heap.size + 1) 0 (.slice none 0 0) 24 ∧ Tb (w3.setCell ⟨qn, 2, none⟩ (.int .u64 (IntKind.u64.wrap (n.v + d)))) (W.heap.size + 2) t.root (.slice au j cu) 24 ∧ OwnN (w3.setCell ⟨qn, 2, none⟩ (.int .u64 (IntKind.u64.wrap (n.v + d)))) (W.heap.size + 3) 57 (.slice au j cu) ((t.ns.map (tN d)).take j) ∧ Below W.heap.size W (w3.setCell ⟨qn, 2, none⟩ (.int .u64 (IntKind.u64.wrap (n.v + d)))) ∧ qn < (w3.setCell ⟨qn, 2, none⟩ (.int .u64 (IntKind.u64.wrap (n.v + d)))).heap.size) := Lib.hid (by
            have hq := HQ.out
            refine ⟨?_, HTb.out.other (by show W.heap.size ≠ qn; omega), HRb.out.other (by show W.heap.size + 1 ≠ qn; omega), HUb.out.other (by show W.heap.size + 2 ≠ qn; omega), HOb.out.cell (q := ⟨qn, 2, none⟩) HOQ.out, HBl.out.setCell (p := ⟨qn, 2, none⟩) (by show W.heap.size ≤ qn; omega) _, by rw [World.size_setCell]; exact HQ1.out⟩
            rw [HEQ.out]
            exact HNF.out.fld _ 2 (by omega) _ hc)
          rw [hin] at n0
          clear hin HEQ hc HNF HTb HRb HUb HOb HBl HQ1
          go_wp2_with fail
          go_meet
          exact HEND
        | false =>
          have HEQ : tN d n = n := by unfold tN; rw [if_neg (by rw [hin]; simp)]
          have HEND := Lib.hid (And.intro HNF.out (And.intro HTb.out (And.intro HRb.out (And.intro HUb.out (And.intro HOb.out (And.intro HBl.out HQ1.out))))))
          rw [← HEQ] at HEND
          rw [hin] at n0
          clear hin HNF HTb HRb HUb HOb HBl HQ1
          go_wp2_with fail
          go_meet
          first | exact HEND | (rw [HEQ] at HEND ⊢; exact HEND)
      case rest =>
        have HC := hcut
        clear n0 n1 n2 n3 n4 n5 fr HNF HTb HRb HUb HOb HBl HQ1 hcut
        generalize tN d n = n' at HC HUN HTK
        obtain ⟨n0, n1, n2, n3, n4, n5⟩ := HC.out.1.six
        obtain ⟨u0, u1, u2, u3⟩ := HC.out.2.2.2.1.all
        have HLW : Hid (W.heap.size + 3 ≤ (wc.alloc (.cells (cellsN1 n').toArray 57)).heap.size) := Lib.hid (by have h1 := HQ.out; have h2 := HC.out.2.2.2.2.2.2; simp; omega)
        have HLEN : Hid (((t.ns.map (tN d)).take (j + 1)).length = j + 1) := Lib.hid (by rw [List.length_take, List.length_map]; omega)
        have HUB : Hid (∀ X, Below (W.heap.size + 3) (wc.alloc (.cells (cellsN1 n').toArray 57)) X → Tb X W.heap.size t.root (.slice (some ⟨nb, off, none⟩) t.ns.length cap) 24 ∧ Tb X (W.heap.size + 1) 0 (.slice none 0 0) 24 ∧ Tb X (W.heap.size + 2) t.root (.slice au j cu) 24 ∧ Below W.heap.size W X) := Lib.hid (fun X hX => by
          have hg := Gr.alloc wc (.cells (cellsN1 n').toArray 57)
          have h1 := HC.out.2.1
          have h2 := HC.out.2.2.1
          have h3 := HC.out.2.2.2.1
          exact ⟨(h1.below hg.below h1.lt).below hX (by omega), (h2.below hg.below h2.lt).below hX (by omega), (h3.below hg.below h3.lt).below hX (by omega), (HC.out.2.2.2.2.2.1.trans (hg.below.mono HC.out.2.2.2.2.2.1.size)).trans (hX.mono (by omega))⟩)
        have HUC : Hid (∀ X, Below (W.heap.size + 3) (wc.alloc (.cells (cellsN1 n').toArray 57)) X → X.cell? ⟨W.heap.size + 2, 0, none⟩ = some (.int .i64 t.root) ∧ X.cell? ⟨W.heap.size + 2, 1, none⟩ = some (.slice au j cu) ∧ X.frozen? ⟨W.heap.size + 2, 0, none⟩ = false ∧ X.frozen? ⟨W.heap.size + 2, 1, none⟩ = false) := Lib.hid (fun X hX => (HUB.out X hX).2.2.1.all)
        go_wp2_with (refine wpList_append_nodes rfl (.tmp 31) (.tmp 33) 22 rfl (W.heap.size + 3) 57 Try.underlying22 info_node (by decide) (.slice au j cu) (.slice (some ⟨wc.heap.size, 0, none⟩) 1 1) (by simp [Act.eval]) (by simp [Act.eval]) ((t.ns.map (tN d)).take j) [n'] (HC.out.2.2.2.2.1.alloc _) (oneN wc n' HUN.out) (by simp only [List.length_take, List.length_map, List.length_singleton]; omega) HLW.out ?_; intro v5 w5 hO5 hb5; rw [HTK.out] at hO5; obtain ⟨a5, c5, rfl⟩ := hO5.sl; rw [HLEN.out] at hO5 ⊢; obtain ⟨y0, y1, y2, y3⟩ := HUC.out _ hb5)
        all_goals
          have HEND : Hid (Uy W (w5.setCell ⟨W.heap.size + 2, 1, none⟩ (.slice a5 (j + 1) c5)) (.slice (some ⟨nb, off, none⟩) t.ns.length cap) t (j + 1) d) := Lib.hid (by
            have hT := HUB.out _ hb5
            exact ⟨hT.1.other (by show W.heap.size ≠ W.heap.size + 2; omega), hT.2.1.other (by show W.heap.size + 1 ≠ W.heap.size + 2; omega), ⟨a5, c5, hT.2.2.1.storeV _, hO5.other (by show W.heap.size + 2 < W.heap.size + 3; omega)⟩, hT.2.2.2.setCell (p := ⟨W.heap.size + 2, 1, none⟩) (by show W.heap.size ≤ W.heap.size + 2; omega) _⟩)
          clear hO5 hb5 HUC HUB HC n0 n1 n2 n3 n4 n5 u0 u1 u2 u3
          go_wp2
          go_round
          case rel => exact ⟨j + 1, by omega, by go_num, HEND⟩
          case measure => simp [intOf]; omega
    · obtain rfl : j = t.ns.length := by omega
      obtain ⟨y0, y1, y2, y3⟩ := HJ.out.rb.all
      obtain ⟨u0, u1, -, -⟩ := HU.out.all
      have hfull : (t.ns.map (tN d)).take t.ns.length = (tT d t).ns := by
        show _ = t.ns.map (tN d)
        rw [List.take_of_length_le (by simp)]
      have HND : Hid (Nds wr (.slice au t.ns.length cu) (tT d t).ns) := Lib.hid (by
        have h1 := HO.out
        rw [hfull] at h1
        refine h1.nds (fun x hx => ?_)
        obtain ⟨y, hy, rfl⟩ := List.mem_map.1 hx
        exact tN_U (HN.out.us y hy))
      have HFR : Hid (Fresh (W.heap.size + 3) (.slice au t.ns.length cu)) := Lib.hid HO.out.fresh
      have HF := Lib.hid (And.intro (HJ.out.rb.store t.root (.slice au t.ns.length cu)).all (And.intro ((HND.out.other HFR.out (q := ⟨W.heap.size + 1, 0, none⟩) (by show W.heap.size + 1 < W.heap.size + 3; omega) (.int .i64 t.root)).other HFR.out (q := ⟨W.heap.size + 1, 1, none⟩) (by show W.heap.size + 1 < W.heap.size + 3; omega) (.slice au t.ns.length cu)) ((HJ.out.bl.setCell (p := ⟨W.heap.size + 1, 0, none⟩) (by show W.heap.size ≤ W.heap.size + 1; omega) (.int .i64 t.root)).setCell (p := ⟨W.heap.size + 1, 1, none⟩) (by show W.heap.size ≤ W.heap.size + 1; omega) (.slice au t.ns.length cu))))
      clear hfull
      go_wp2
      obtain ⟨⟨z0, z1, -, -⟩, hf2, hf3⟩ := HF.out
      exact bodyPost_ret (v := .agg #[.int .i64 t.root, .slice au t.ns.length cu]) (by simp [results, Try.results31, go_sem, z0, z1]) rfl ⟨_, _, rfl, hf2, hf3⟩
end Go.Proofs.Ytgjacmkedgbneaa

namespace Go.Proofs.Ytgjacmkedgbneaa.treeTurns
open Go.ChangeShapes Go.WideShapes Go.ChangeAt Go.RowKit Go.Sort Wd Tn Ky Tr

theorem ins_e {m : Int} {k : K} {t t' : T} {e : Int} (hr : RightP m t) (hk : t.has k.2) (h : Ins m k t t' e) : (e = 0 ∧ (t.nd k.2).inn = false) ∨ (e = 1 ∧ (t.nd k.2).inn = true) := by
  cases h with
  | order h => exact absurd hr h
  | arg h hk' => exact .inr ⟨rfl, hk'.resolve_left (fun w => w hk)⟩
  | done h hk' hi n n2 u s t' hd hm => exact .inl ⟨rfl, hi⟩
theorem del_e {m z : Int} {t t' : T} {e : Int} (hr : RightP m t) (hk : t.has z) (h : Del m z t t' e) : (e = 8 ∧ (t.nd z).inn = false) ∨ (e = 0 ∧ (t.nd z).inn = true) := by
  cases h with
  | order h => exact absurd hr h
  | arg h hk' => exact absurd hk hk'
  | idle h hk' hi => exact .inl ⟨rfl, hi⟩
  | done h hk' hi t' hm => exact .inr ⟨rfl, hi⟩

set_option maxHeartbeats 16000000 in
set_option maxRecDepth 100000 in
theorem walk (m : Int) (vl : Value) (zs : List Int) (d : Int) (W : World) (_hm : (Lit.int .u64 m).wf = true) (hl : Ints .u16 W vl zs) (_hd : (Lit.int .u64 d).wf = true) :
    Calls Try.prog 9 #[.int .u64 m, vl, .int .u64 d] W fun e w' => e = .returned (.bool true) ∧ Below W.heap.size W w' := by
  have HL := Lib.hid hl
  obtain ⟨al, cl, rfl, hmx, -, -⟩ := hl
  unfold maxLen at hmx
  have HAW := Lib.hid (awake_at W)
  obtain ⟨id, hid⟩ : ∃ id : Nat, zs.length % 24 = id := ⟨_, rfl⟩
  have hid24 : id < 24 := by omega
  have hrem : Int.tmod (zs.length : Int) 24 = (id : Int) := by rw [← hid]; rfl
  have hrem2 : (zs.length : Int) % 24 = (id : Int) := by omega
  obtain ⟨kv, hkv⟩ : ∃ kv, IntKind.u64.wrap (m + 7) = kv := ⟨_, rfl⟩
  have HKU : Hid (U kv) := Lib.hid (by rw [← hkv]; exact U_wrap _)
  obtain ⟨m', hm'⟩ : ∃ m', IntKind.u64.wrap (m + d) = m' := ⟨_, rfl⟩
  obtain ⟨kv', hkv'⟩ : ∃ kv', IntKind.u64.wrap (kv + d) = kv' := ⟨_, rfl⟩
  have HM' := Lib.hid hm'
  have HKV' := Lib.hid hkv'
  clear hid
  go_enter Try.func9, Try.ntmps9
  go_wp2_with fail
  refine HAW.out.mono ?_
  rintro e' w1 ⟨rfl, hb1⟩
  have HB1 := Lib.hid hb1
  have HMD := Lib.hid (Made_at m _ zs w1 (HL.out.below hb1))
  clear HAW hb1
  go_wp2_with fail
  refine HMD.out.mono ?_
  rintro e' w2 ⟨t, b, v2, rfl, ht24, hn2, hW, hR, hb2⟩
  obtain ⟨a2, c2, rfl, -, -⟩ := hn2.len
  have HX2 := Lib.hid ((Below.refl w2.heap.size w2).alloc (Nat.le_refl _) (.cells #[.int .i64 t.root, .slice a2 t.ns.length c2] 24))
  have HB2 := Lib.hid (bOnA (bOnA HB1.out hb2 (Nat.le_refl _)) HX2.out (Nat.le_refl _))
  have HT2 := Lib.hid (Tb.new w2 t.root (.slice a2 t.ns.length c2) 24)
  have HN2 := Lib.hid (hn2.below HX2.out)
  have HWR := Lib.hid (And.intro hW hR)
  have HLT : Hid (t.ns.length ≤ 1000) := Lib.hid (by omega)
  have HHAS : Hid (t.has (id : Int)) := Lib.hid (by unfold T.has; omega)
  have HKI : Hid (Kin (kv, (id : Int))) := Lib.hid ⟨HKU.out, by unfold I; simp only; omega⟩
  have HRP : Hid (RightP m t) := Lib.hid ⟨b, hW, hR⟩
  have HKI2 : Hid (Kin (kv', (id : Int))) := Lib.hid ⟨by rw [← HKV'.out]; exact U_wrap _, by unfold I; simp only; omega⟩
  clear HMD hn2 hb2 HX2 hW hR ht24 HB1
  go_upto_region 5 with fail
  generalize w2.heap.size = q at HT2 ⊢
  generalize w2.alloc (.cells #[.int .i64 t.root, .slice a2 t.ns.length c2] 24) = w3 at HT2 HN2 HB2 ⊢
  have HKB := Lib.hid (Kb.new w3 (kv, (id : Int)))
  simp only at HKB
  have HX3 := Lib.hid ((Below.refl w3.heap.size w3).alloc (Nat.le_refl _) (.cells #[.int .u64 kv, .int .i64 id] 27))
  have HT3 := Lib.hid (HT2.out.below HX3.out HT2.out.lt)
  have HN3 := Lib.hid (HN2.out.below HX3.out)
  have HB3 := Lib.hid (bOnA HB2.out HX3.out (Nat.le_refl _))
  clear HX3 HT2 HN2 HB2
  go_upto_region 6 with fail
  generalize w3.heap.size = qk at HKB ⊢
  generalize w3.alloc (.cells #[.int .u64 kv, .int .i64 id] 27) = w5 at HKB HT3 HN3 HB3 ⊢
  obtain ⟨td, ed, hD, -⟩ := del_any HWR.out.1 HWR.out.2 HHAS.out
  obtain ⟨ti, ei, hI, -⟩ := ins_any HWR.out.1 HWR.out.2 HKI.out (Sub.keyU HN3.out.us HWR.out.1.len HWR.out.1.sub) HHAS.out
  have HEG : Hid ((ei = 0 ∧ ed = 8) ∨ (ei = 1 ∧ ed = 0)) := Lib.hid (by
    rcases ins_e HRP.out HHAS.out hI with ⟨e1, i1⟩ | ⟨e1, i1⟩ <;> rcases del_e HRP.out HHAS.out hD with ⟨e2, i2⟩ | ⟨e2, i2⟩
    · exact .inl ⟨e1, e2⟩
    · exact absurd (i1.symm.trans i2) (by simp)
    · exact absurd (i1.symm.trans i2) (by simp)
    · exact .inr ⟨e1, e2⟩)
  have HD := Lib.hid hD
  have HI := Lib.hid hI
  have HDT : Hid (Del m' id (tT d t) (tT d td) ed) := Lib.hid (by rw [← HM'.out]; exact tT_del d HRP.out hD)
  have HIT : Hid (Ins m' (kv', (id : Int)) (tT d t) (tT d ti) ei) := Lib.hid (by rw [← HM'.out, ← HKV'.out]; exact tT_ins d HRP.out hI)
  have HLI : Hid (ti.ns.length ≤ 1000) := Lib.hid (by
    rcases ins_e HRP.out HHAS.out hI with ⟨rfl, -⟩ | ⟨rfl, -⟩
    · rw [Ins.len hI]; exact HLT.out
    · cases hI; simp)
  have HLD : Hid (td.ns.length ≤ 1000) := Lib.hid (by
    rcases del_e HRP.out HHAS.out hD with ⟨rfl, -⟩ | ⟨rfl, -⟩
    · cases hD; simp
    · rw [Del.len hD]; exact HLT.out)
  clear hD hI
  obtain ⟨k0, k1, -, -, -⟩ := HKB.out.all
  simp only at k0 k1
  obtain ⟨x0, x1, -, -⟩ := HT3.out.all
  have HC := Lib.hid (Insert_s HN3.out HKI.out HI.out)
  go_wp2_with fail
  refine HC.out.mono ?_
  rintro e' w6 ⟨a6, c6, rfl, hn6, hb6⟩
  have HA6 := Lib.hid ((Below.refl w6.heap.size w6).alloc (Nat.le_refl _) (.cells #[.int .i64 ti.root, .slice a6 ti.ns.length c6] 24))
  have HX6 := Lib.hid (hb6.alloc hb6.size (.cells #[.int .i64 ti.root, .slice a6 ti.ns.length c6] 24))
  have HTA := Lib.hid (Tb.new w6 ti.root (.slice a6 ti.ns.length c6) 24)
  have HNA := Lib.hid (hn6.below HA6.out)
  have HT6 := Lib.hid (HT3.out.below HX6.out HT3.out.lt)
  have HN6 := Lib.hid (HN3.out.below HX6.out)
  have HK6 := Lib.hid (HKB.out.below HX6.out HKB.out.lt)
  have HB6 := Lib.hid (bOnA HB3.out HX6.out (Nat.le_refl _))
  clear HC hn6 hb6 HA6 HX6 HT3 HN3 HKB HB3 k0 k1 x0 x1
  go_upto_region 7 with fail
  generalize w6.heap.size = qa at HTA ⊢
  generalize w6.alloc (.cells #[.int .i64 ti.root, .slice a6 ti.ns.length c6] 24) = w0 at HTA HNA HT6 HN6 HK6 HB6 ⊢
  -- turned, then tree.Insert
  have HGS : Hid (∀ X, Below w0.heap.size w0 X → X.cell? ⟨q, 0, none⟩ = some (.int .i64 t.root) ∧ X.cell? ⟨q, 1, none⟩ = some (.slice a2 t.ns.length c2) ∧ X.cell? ⟨qk, 0, none⟩ = some (.int .u64 kv) ∧ X.cell? ⟨qk, 1, none⟩ = some (.int .i64 id)) := Lib.hid (fun X hX => by
    have g1 := (HT6.out.below hX HT6.out.lt).all
    have g2 := (HK6.out.below hX HK6.out.lt).all
    exact ⟨g1.1, g1.2.1, g2.1, g2.2.1⟩)
  have HTR : Hid (∀ X Y, Below w0.heap.size w0 X → Below X.heap.size X Y → Below w0.heap.size w0 Y) := Lib.hid (fun X Y h1 h2 => bOnA h1 h2 (Nat.le_refl _))
  have HAL : Hid (∀ (X : World) (ob : Obj), Below w0.heap.size w0 X → Below w0.heap.size w0 (X.alloc ob)) := Lib.hid (fun X ob hX => hX.alloc hX.size ob)
  have HSC : Hid (∀ Y q' r y, Below w0.heap.size w0 Y → w0.heap.size ≤ q' → Below w0.heap.size w0 ((Y.setCell ⟨q', 0, none⟩ r).setCell ⟨q', 1, none⟩ y)) := Lib.hid (fun Y q' r y hY hq => (hY.setCell (p := ⟨q', 0, none⟩) hq r).setCell (p := ⟨q', 1, none⟩) hq y)
  have HTU : Hid (∀ X, Below w0.heap.size w0 X → Calls Try.prog 31 #[.agg #[.int .i64 t.root, (.slice a2 t.ns.length c2)], .int .u64 d] X fun e w' => ∃ a c, e = .returned (.agg #[.int .i64 t.root, .slice a t.ns.length c]) ∧ Nds w' (.slice a t.ns.length c) (tT d t).ns ∧ Below X.heap.size X w') := Lib.hid (fun X hX => turned_at (HN6.out.below hX) HLT.out d)
  have HCA : Hid (∀ X a c, Nds X (.slice a t.ns.length c) (tT d t).ns → Calls Try.prog 11 #[.agg #[.int .i64 t.root, .slice a t.ns.length c], .int .u64 m', .agg #[.int .u64 kv', .int .i64 id]] X fun en w' => ∃ a c, en = .returned (.tuple #[.agg #[.int .i64 ti.root, .slice a ti.ns.length c], .int .i64 ei]) ∧ Nds w' (.slice a ti.ns.length c) (tT d ti).ns ∧ Below X.heap.size X w') := Lib.hid (fun X a c hX => by
    refine (Insert_s (t := tT d t) hX HKI2.out HIT.out).mono ?_
    rintro en w' ⟨a, c, h1, h2, h3⟩
    rw [tT_len] at h1 h2
    exact ⟨a, c, h1, h2, h3⟩)
  have HEN : Hid (∀ (Y : World) (q' : Nat) (a9 : Option Addr) (c9 : Nat), Tb Y q' 0 (.slice none 0 0) 24 → Nds Y (.slice a9 ti.ns.length c9) (tT d ti).ns → Below w0.heap.size w0 Y → w0.heap.size ≤ q' → Tb ((Y.setCell ⟨q', 0, none⟩ (.int .i64 ti.root)).setCell ⟨q', 1, none⟩ (.slice a9 ti.ns.length c9)) q' ti.root (.slice a9 ti.ns.length c9) 24 ∧ Nds ((Y.setCell ⟨q', 0, none⟩ (.int .i64 ti.root)).setCell ⟨q', 1, none⟩ (.slice a9 ti.ns.length c9)) (.slice a9 ti.ns.length c9) (tT d ti).ns ∧ Below w0.heap.size w0 ((Y.setCell ⟨q', 0, none⟩ (.int .i64 ti.root)).setCell ⟨q', 1, none⟩ (.slice a9 ti.ns.length c9))) := Lib.hid (fun Y q' a9 c9 h1 h2 h3 h4 => ⟨h1.store _ _, h2.stored h1, HSC.out _ _ _ _ h3 h4⟩)
  have HNB : Hid (∀ X Y : World, Below (X.alloc (.cells #[.int .i64 0, .slice none 0 0] 24)).heap.size (X.alloc (.cells #[.int .i64 0, .slice none 0 0] 24)) Y → Tb Y X.heap.size 0 (.slice none 0 0) 24) := Lib.hid (fun X Y hY => (Tb.new X 0 (.slice none 0 0) 24).below hY (Tb.new X 0 (.slice none 0 0) 24).lt)
  have HNA2 : Hid (∀ Y Z : World, Below (w0.alloc (.cells #[.int .i64 0, .slice none 0 0] 24)).drew.heap.size (w0.alloc (.cells #[.int .i64 0, .slice none 0 0] 24)).drew Y → Below Y.heap.size Y Z → Tb Z w0.heap.size 0 (.slice none 0 0) 24) := Lib.hid (fun Y Z hY hZ => by
    have h1 : Tb (w0.alloc (.cells #[.int .i64 0, .slice none 0 0] 24)).drew w0.heap.size 0 (.slice none 0 0) 24 := Tb.new w0 0 (.slice none 0 0) 24
    have h2 := h1.below hY h1.lt
    exact h2.below hZ h2.lt)
  have hD0 : Below w0.heap.size w0 w0.drew := (Below.refl _ _).drew
  have hAD : Below w0.heap.size w0 (w0.alloc (.cells #[.int .i64 0, .slice none 0 0] 24)).drew := (HAL.out _ _ (Below.refl _ _)).drew
  have hx1 := HGS.out _ hD0
  have hm'' := HM'.out
  have hkv'' := HKV'.out
  go_cut [12, 13] (fun p12 e13 wx => ∃ (qn : Nat) (a : Option Addr) (c : Nat), p12 = .pointer (some ⟨qn, 0, none⟩) ∧ e13 = .int .i64 ei ∧ Hid (Tb wx qn ti.root (.slice a ti.ns.length c) 24 ∧ Nds wx (.slice a ti.ns.length c) (tT d ti).ns ∧ Below w0.heap.size w0 wx))
  case first =>
    go_region_held3 (fun X => X.cell? ⟨q, 0, none⟩ = some (.int .i64 t.root) ∧ X.cell? ⟨q, 1, none⟩ = some (.slice a2 t.ns.length c2) ∧ X.cell? ⟨qk, 0, none⟩ = some (.int .u64 kv) ∧ X.cell? ⟨qk, 1, none⟩ = some (.int .i64 id))
      (first
        | exact hx1
        | (with_reducible exact HGS.out _ (by assumption))
        | (with_reducible exact HGS.out _ (HAL.out _ _ (by assumption)))
        | (with_reducible exact HGS.out _ (HSC.out _ _ _ _ (by first | assumption | exact HAL.out _ _ (by assumption)) (by first | exact Nat.le_refl _ | exact Below.size (by assumption))))
        | go_keep)
      (first
        | (go_at_call 31; refine (HTU.out _ (by assumption)).mono ?_; rintro e' w4 ⟨a4, c4, rfl, hn4, hb4⟩; have hB4 := HTR.out _ _ (by assumption) hb4)
        | (go_at_call 11; first | (refine (HCA.out _ _ _ hn4).mono ?_; rintro e' w9 ⟨a9, c9, rfl, hn9, hb9⟩; have hB9 := HTR.out _ _ hB4 hb9; first | (have hT9 := HNA2.out _ _ hb4 hb9; obtain ⟨p0, p1, p2, p3⟩ := hT9.all) | skip) | (refine (HCA.out _ _ _ (hn4.below (Gr.alloc _ _).below)).mono ?_; rintro e' w9 ⟨a9, c9, rfl, hn9, hb9⟩; have hB9 := HTR.out _ _ (HAL.out _ _ hB4) hb9; have hT9 := HNB.out _ _ hb9; obtain ⟨p0, p1, p2, p3⟩ := hT9.all)))
    all_goals
      first
        | (have HEND := Lib.hid (HEN.out _ _ _ _ hT9 hn9 hB9 (by first | exact Nat.le_refl _ | exact hB4.size))
           go_wp2_with fail
           go_meet
           exact ⟨_, _, _, rfl, rfl, HEND⟩)
        | (have HEND := Lib.hid (And.intro (Tb.new w9 ti.root (.slice a9 ti.ns.length c9) 24) (And.intro (hn9.below (Gr.alloc w9 (.cells #[.int .i64 ti.root, .slice a9 ti.ns.length c9] 24)).below) (HAL.out w9 (.cells #[.int .i64 ti.root, .slice a9 ti.ns.length c9] 24) hB9)))
           go_wp2_with fail
           go_meet
           exact ⟨_, _, _, rfl, rfl, HEND⟩)
  case rest =>
    obtain ⟨qb, a8, c8, rfl, rfl, HC⟩ := hcut
    have HTB := Lib.hid HC.out.1
    have HNB2 := Lib.hid HC.out.2.1
    have hb8 := HC.out.2.2
    have HTA8 := Lib.hid (HTA.out.below hb8 HTA.out.lt)
    have HNA8 := Lib.hid (HNA.out.below hb8)
    have HT8 := Lib.hid (HT6.out.below hb8 HT6.out.lt)
    have HN8 := Lib.hid (HN6.out.below hb8)
    have HK8 := Lib.hid (HK6.out.below hb8 HK6.out.lt)
    have HB8 := Lib.hid (bOnA HB6.out hb8 (Nat.le_refl _))
    clear HC hb8 HTA HNA HT6 HN6 HK6 HB6 HGS HTR HAL HSC HTU HCA HEN HNB HNA2 hD0 hAD hx1 hm'' hkv''
    generalize wc = w9 at HTB HNB2 HTA8 HNA8 HT8 HN8 HK8 HB8 ⊢
    obtain ⟨k0, k1, -, -, -⟩ := HK8.out.all
    simp only at k0 k1
    obtain ⟨x0, x1, -, -⟩ := HT8.out.all
    have HC := Lib.hid (Delete_s HN8.out HD.out)
    go_wp2_with fail
    refine HC.out.mono ?_
    rintro e' w10 ⟨a10, c10, rfl, hn10, hb10⟩
    have HA10 := Lib.hid ((Below.refl w10.heap.size w10).alloc (Nat.le_refl _) (.cells #[.int .i64 td.root, .slice a10 td.ns.length c10] 24))
    have HX10 := Lib.hid (hb10.alloc hb10.size (.cells #[.int .i64 td.root, .slice a10 td.ns.length c10] 24))
    have HTC := Lib.hid (Tb.new w10 td.root (.slice a10 td.ns.length c10) 24)
    have HNC := Lib.hid (hn10.below HA10.out)
    have HTA10 := Lib.hid (HTA8.out.below HX10.out HTA8.out.lt)
    have HNA10 := Lib.hid (HNA8.out.below HX10.out)
    have HTB10 := Lib.hid (HTB.out.below HX10.out HTB.out.lt)
    have HNB10 := Lib.hid (HNB2.out.below HX10.out)
    have HT10 := Lib.hid (HT8.out.below HX10.out HT8.out.lt)
    have HN10 := Lib.hid (HN8.out.below HX10.out)
    have HK10 := Lib.hid (HK8.out.below HX10.out HK8.out.lt)
    have HB10 := Lib.hid (bOnA HB8.out HX10.out (Nat.le_refl _))
    clear HC hn10 hb10 HA10 HX10 HTA8 HNA8 HTB HNB2 HT8 HN8 HK8 HB8 k0 k1 x0 x1
    go_upto_region 9 with fail
    generalize w10.heap.size = qc at HTC ⊢
    generalize w10.alloc (.cells #[.int .i64 td.root, .slice a10 td.ns.length c10] 24) = w11 at HTC HNC HTA10 HNA10 HTB10 HNB10 HT10 HN10 HK10 HB10 ⊢
    -- turned, then tree.Delete
    have HGS : Hid (∀ X, Below w11.heap.size w11 X → X.cell? ⟨q, 0, none⟩ = some (.int .i64 t.root) ∧ X.cell? ⟨q, 1, none⟩ = some (.slice a2 t.ns.length c2) ∧ X.cell? ⟨qk, 0, none⟩ = some (.int .u64 kv) ∧ X.cell? ⟨qk, 1, none⟩ = some (.int .i64 id)) := Lib.hid (fun X hX => by
      have g1 := (HT10.out.below hX HT10.out.lt).all
      have g2 := (HK10.out.below hX HK10.out.lt).all
      exact ⟨g1.1, g1.2.1, g2.1, g2.2.1⟩)
    have HTR : Hid (∀ X Y, Below w11.heap.size w11 X → Below X.heap.size X Y → Below w11.heap.size w11 Y) := Lib.hid (fun X Y h1 h2 => bOnA h1 h2 (Nat.le_refl _))
    have HAL : Hid (∀ (X : World) (ob : Obj), Below w11.heap.size w11 X → Below w11.heap.size w11 (X.alloc ob)) := Lib.hid (fun X ob hX => hX.alloc hX.size ob)
    have HSC : Hid (∀ Y q' r y, Below w11.heap.size w11 Y → w11.heap.size ≤ q' → Below w11.heap.size w11 ((Y.setCell ⟨q', 0, none⟩ r).setCell ⟨q', 1, none⟩ y)) := Lib.hid (fun Y q' r y hY hq => (hY.setCell (p := ⟨q', 0, none⟩) hq r).setCell (p := ⟨q', 1, none⟩) hq y)
    have HTU : Hid (∀ X, Below w11.heap.size w11 X → Calls Try.prog 31 #[.agg #[.int .i64 t.root, (.slice a2 t.ns.length c2)], .int .u64 d] X fun e w' => ∃ a c, e = .returned (.agg #[.int .i64 t.root, .slice a t.ns.length c]) ∧ Nds w' (.slice a t.ns.length c) (tT d t).ns ∧ Below X.heap.size X w') := Lib.hid (fun X hX => turned_at (HN10.out.below hX) HLT.out d)
    have HCA : Hid (∀ X a c, Nds X (.slice a t.ns.length c) (tT d t).ns → Calls Try.prog 13 #[.agg #[.int .i64 t.root, .slice a t.ns.length c], .int .u64 m', .int .i64 id] X fun en w' => ∃ a c, en = .returned (.tuple #[.agg #[.int .i64 td.root, .slice a td.ns.length c], .int .i64 ed]) ∧ Nds w' (.slice a td.ns.length c) (tT d td).ns ∧ Below X.heap.size X w') := Lib.hid (fun X a c hX => by
      refine (Delete_s (t := tT d t) hX HDT.out).mono ?_
      rintro en w' ⟨a, c, h1, h2, h3⟩
      rw [tT_len] at h1 h2
      exact ⟨a, c, h1, h2, h3⟩)
    have HEN : Hid (∀ (Y : World) (q' : Nat) (a9 : Option Addr) (c9 : Nat), Tb Y q' 0 (.slice none 0 0) 24 → Nds Y (.slice a9 td.ns.length c9) (tT d td).ns → Below w11.heap.size w11 Y → w11.heap.size ≤ q' → Tb ((Y.setCell ⟨q', 0, none⟩ (.int .i64 td.root)).setCell ⟨q', 1, none⟩ (.slice a9 td.ns.length c9)) q' td.root (.slice a9 td.ns.length c9) 24 ∧ Nds ((Y.setCell ⟨q', 0, none⟩ (.int .i64 td.root)).setCell ⟨q', 1, none⟩ (.slice a9 td.ns.length c9)) (.slice a9 td.ns.length c9) (tT d td).ns ∧ Below w11.heap.size w11 ((Y.setCell ⟨q', 0, none⟩ (.int .i64 td.root)).setCell ⟨q', 1, none⟩ (.slice a9 td.ns.length c9))) := Lib.hid (fun Y q' a9 c9 h1 h2 h3 h4 => ⟨h1.store _ _, h2.stored h1, HSC.out _ _ _ _ h3 h4⟩)
    have HNB : Hid (∀ X Y : World, Below (X.alloc (.cells #[.int .i64 0, .slice none 0 0] 24)).heap.size (X.alloc (.cells #[.int .i64 0, .slice none 0 0] 24)) Y → Tb Y X.heap.size 0 (.slice none 0 0) 24) := Lib.hid (fun X Y hY => (Tb.new X 0 (.slice none 0 0) 24).below hY (Tb.new X 0 (.slice none 0 0) 24).lt)
    have HNA2 : Hid (∀ Y Z : World, Below (w11.alloc (.cells #[.int .i64 0, .slice none 0 0] 24)).drew.heap.size (w11.alloc (.cells #[.int .i64 0, .slice none 0 0] 24)).drew Y → Below Y.heap.size Y Z → Tb Z w11.heap.size 0 (.slice none 0 0) 24) := Lib.hid (fun Y Z hY hZ => by
      have h1 : Tb (w11.alloc (.cells #[.int .i64 0, .slice none 0 0] 24)).drew w11.heap.size 0 (.slice none 0 0) 24 := Tb.new w11 0 (.slice none 0 0) 24
      have h2 := h1.below hY h1.lt
      exact h2.below hZ h2.lt)
    have hD0 : Below w11.heap.size w11 w11.drew := (Below.refl _ _).drew
    have hAD : Below w11.heap.size w11 (w11.alloc (.cells #[.int .i64 0, .slice none 0 0] 24)).drew := (HAL.out _ _ (Below.refl _ _)).drew
    have hx1 := HGS.out _ hD0
    have hm'' := HM'.out
    have hkv'' := HKV'.out
    go_cut [16, 17] (fun p12 e13 wx => ∃ (qn : Nat) (a : Option Addr) (c : Nat), p12 = .pointer (some ⟨qn, 0, none⟩) ∧ e13 = .int .i64 ed ∧ Hid (Tb wx qn td.root (.slice a td.ns.length c) 24 ∧ Nds wx (.slice a td.ns.length c) (tT d td).ns ∧ Below w11.heap.size w11 wx))
    case first =>
      go_region_held3 (fun X => X.cell? ⟨q, 0, none⟩ = some (.int .i64 t.root) ∧ X.cell? ⟨q, 1, none⟩ = some (.slice a2 t.ns.length c2) ∧ X.cell? ⟨qk, 0, none⟩ = some (.int .u64 kv) ∧ X.cell? ⟨qk, 1, none⟩ = some (.int .i64 id))
        (first
          | exact hx1
          | (with_reducible exact HGS.out _ (by assumption))
          | (with_reducible exact HGS.out _ (HAL.out _ _ (by assumption)))
          | (with_reducible exact HGS.out _ (HSC.out _ _ _ _ (by first | assumption | exact HAL.out _ _ (by assumption)) (by first | exact Nat.le_refl _ | exact Below.size (by assumption))))
          | go_keep)
        (first
          | (go_at_call 31; refine (HTU.out _ (by assumption)).mono ?_; rintro e' w4 ⟨a4, c4, rfl, hn4, hb4⟩; have hB4 := HTR.out _ _ (by assumption) hb4)
          | (go_at_call 13; first | (refine (HCA.out _ _ _ hn4).mono ?_; rintro e' w9 ⟨a9, c9, rfl, hn9, hb9⟩; have hB9 := HTR.out _ _ hB4 hb9; first | (have hT9 := HNA2.out _ _ hb4 hb9; obtain ⟨p0, p1, p2, p3⟩ := hT9.all) | skip) | (refine (HCA.out _ _ _ (hn4.below (Gr.alloc _ _).below)).mono ?_; rintro e' w9 ⟨a9, c9, rfl, hn9, hb9⟩; have hB9 := HTR.out _ _ (HAL.out _ _ hB4) hb9; have hT9 := HNB.out _ _ hb9; obtain ⟨p0, p1, p2, p3⟩ := hT9.all)))
      all_goals
        first
          | (have HEND := Lib.hid (HEN.out _ _ _ _ hT9 hn9 hB9 (by first | exact Nat.le_refl _ | exact hB4.size))
             go_wp2_with fail
             go_meet
             exact ⟨_, _, _, rfl, rfl, HEND⟩)
          | (have HEND := Lib.hid (And.intro (Tb.new w9 td.root (.slice a9 td.ns.length c9) 24) (And.intro (hn9.below (Gr.alloc w9 (.cells #[.int .i64 td.root, .slice a9 td.ns.length c9] 24)).below) (HAL.out w9 (.cells #[.int .i64 td.root, .slice a9 td.ns.length c9] 24) hB9)))
             go_wp2_with fail
             go_meet
             exact ⟨_, _, _, rfl, rfl, HEND⟩)
    case rest =>
      obtain ⟨qd, a12, c12, rfl, rfl, HC⟩ := hcut
      have HTD := Lib.hid HC.out.1
      have HND := Lib.hid HC.out.2.1
      have hb12 := HC.out.2.2
      have HTA12 := Lib.hid (HTA10.out.below hb12 HTA10.out.lt)
      have HNA12 := Lib.hid (HNA10.out.below hb12)
      have HTB12 := Lib.hid (HTB10.out.below hb12 HTB10.out.lt)
      have HNB12 := Lib.hid (HNB10.out.below hb12)
      have HTC12 := Lib.hid (HTC.out.below hb12 HTC.out.lt)
      have HNC12 := Lib.hid (HNC.out.below hb12)
      have HB12 := Lib.hid (bOnA HB10.out hb12 (Nat.le_refl _))
      clear HC hb12 HTA10 HNA10 HTB10 HNB10 HTC HNC HT10 HN10 HK10 HB10 HGS HTR HAL HSC HTU HCA HEN HNB HNA2 hD0 hAD hx1 hm'' hkv'' HD HI HDT HIT HM' HKV' HKI HKI2 HHAS HRP HWR HKU
      generalize wc = w0 at HTD HND HTA12 HNA12 HTB12 HNB12 HTC12 HNC12 HB12 ⊢
      go_upto_region 10 with fail
      have HGS : Hid (∀ X, Below w0.heap.size w0 X → X.cell? ⟨qa, 0, none⟩ = some (.int .i64 ti.root) ∧ X.cell? ⟨qa, 1, none⟩ = some (.slice a6 ti.ns.length c6) ∧ X.cell? ⟨qb, 0, none⟩ = some (.int .i64 ti.root) ∧ X.cell? ⟨qb, 1, none⟩ = some (.slice a8 ti.ns.length c8) ∧ X.cell? ⟨qc, 0, none⟩ = some (.int .i64 td.root) ∧ X.cell? ⟨qc, 1, none⟩ = some (.slice a10 td.ns.length c10) ∧ X.cell? ⟨qd, 0, none⟩ = some (.int .i64 td.root) ∧ X.cell? ⟨qd, 1, none⟩ = some (.slice a12 td.ns.length c12)) := Lib.hid (fun X hX => by
        have g1 := (HTA12.out.below hX HTA12.out.lt).all
        have g2 := (HTB12.out.below hX HTB12.out.lt).all
        have g3 := (HTC12.out.below hX HTC12.out.lt).all
        have g4 := (HTD.out.below hX HTD.out.lt).all
        exact ⟨g1.1, g1.2.1, g2.1, g2.2.1, g3.1, g3.2.1, g4.1, g4.2.1⟩)
      have HT : Hid (∀ X Y, Below w0.heap.size w0 X → Below X.heap.size X Y → Below w0.heap.size w0 Y) := Lib.hid (fun X Y h1 h2 => bOnA h1 h2 (Nat.le_refl _))
      have HU1 : Hid (∀ X, Below w0.heap.size w0 X → Calls Try.prog 31 #[.agg #[.int .i64 ti.root, .slice a6 ti.ns.length c6], .int .u64 d] X fun e w' => ∃ a c, e = .returned (.agg #[.int .i64 ti.root, .slice a ti.ns.length c]) ∧ Nds w' (.slice a ti.ns.length c) (tT d ti).ns ∧ Below w0.heap.size w0 w') := Lib.hid (fun X hX => (turned_at (HNA12.out.below hX) HLI.out d).mono fun e w' ⟨a, c, h1, h2, h3⟩ => ⟨a, c, h1, h2, HT.out X w' hX h3⟩)
      have HU2 : Hid (∀ X, Below w0.heap.size w0 X → Calls Try.prog 31 #[.agg #[.int .i64 td.root, .slice a10 td.ns.length c10], .int .u64 d] X fun e w' => ∃ a c, e = .returned (.agg #[.int .i64 td.root, .slice a td.ns.length c]) ∧ Nds w' (.slice a td.ns.length c) (tT d td).ns ∧ Below w0.heap.size w0 w') := Lib.hid (fun X hX => (turned_at (HNC12.out.below hX) HLD.out d).mono fun e w' ⟨a, c, h1, h2, h3⟩ => ⟨a, c, h1, h2, HT.out X w' hX h3⟩)
      have HS1 : Hid (∀ X a c, Below w0.heap.size w0 X → Nds X (.slice a ti.ns.length c) (tT d ti).ns → Calls Try.prog 15 #[.agg #[.int .i64 ti.root, .slice a ti.ns.length c], .agg #[.int .i64 ti.root, .slice a8 ti.ns.length c8]] X fun e w' => e = .returned (.bool true) ∧ Below w0.heap.size w0 w') := Lib.hid (fun X a c hX hN => (rSame_eq (t := tT d ti) hN (HNB12.out.below hX)).mono fun e w' h => ⟨h.1, HT.out X w' hX h.2⟩)
      have HS2 : Hid (∀ X a c, Below w0.heap.size w0 X → Nds X (.slice a td.ns.length c) (tT d td).ns → Calls Try.prog 15 #[.agg #[.int .i64 td.root, .slice a td.ns.length c], .agg #[.int .i64 td.root, .slice a12 td.ns.length c12]] X fun e w' => e = .returned (.bool true) ∧ Below w0.heap.size w0 w') := Lib.hid (fun X a c hX hN => (rSame_eq (t := tT d td) hN (HND.out.below hX)).mono fun e w' h => ⟨h.1, HT.out X w' hX h.2⟩)
      have hD0 : Below w0.heap.size w0 w0.drew := (Below.refl _ _).drew
      have hx1 := HGS.out _ hD0
      have hee : (ei == ei) = true := by simp
      have hdd : (ed == ed) = true := by simp
      have HB0 := HB12
      clear HTD HND HTA12 HNA12 HTB12 HNB12 HTC12 HNC12 HB12 HLI HLD HLT
      rcases HEG.out with ⟨rfl, rfl⟩ | ⟨rfl, rfl⟩
      all_goals
        clear HEG
        go_region_held3 (fun X => X.cell? ⟨qa, 0, none⟩ = some (.int .i64 ti.root) ∧ X.cell? ⟨qa, 1, none⟩ = some (.slice a6 ti.ns.length c6) ∧ X.cell? ⟨qb, 0, none⟩ = some (.int .i64 ti.root) ∧ X.cell? ⟨qb, 1, none⟩ = some (.slice a8 ti.ns.length c8) ∧ X.cell? ⟨qc, 0, none⟩ = some (.int .i64 td.root) ∧ X.cell? ⟨qc, 1, none⟩ = some (.slice a10 td.ns.length c10) ∧ X.cell? ⟨qd, 0, none⟩ = some (.int .i64 td.root) ∧ X.cell? ⟨qd, 1, none⟩ = some (.slice a12 td.ns.length c12))
          (first
            | exact hx1
            | (with_reducible exact HGS.out _ (by assumption))
            | go_keep)
          (first
            | (go_at_call 31; first | (with_reducible refine (HU1.out _ (by assumption)).mono ?_; rintro e' wu ⟨au, cu, rfl, hnu, hbu⟩) | (with_reducible refine (HU2.out _ (by assumption)).mono ?_; rintro e' wv ⟨av, cv, rfl, hnv, hbv⟩))
            | (go_at_call 15; first | (with_reducible refine (HS1.out _ _ _ (by assumption) hnu).mono ?_; rintro e' ws ⟨rfl, hbs⟩) | (with_reducible refine (HS2.out _ _ _ (by assumption) hnv).mono ?_; rintro e' wt ⟨rfl, hbt⟩)))
        all_goals
          go_wp2
          go_ret
          exact ⟨rfl, bOnA HB0.out (by assumption) (Nat.le_refl _)⟩
set_option maxRecDepth 100000 in
theorem lifted (os : Os) (started : os.Started) (H : Type) (enc : TypeId × Value → H) :
    ReturnsInHanded {} Try.checked os 9 .any (Rows.treeTurnsSpec.pre6 enc Try.prog Try.f9 Rows.treeTurnsRow.domain false) (Rows.treeTurnsSpec.post enc Try.prog Try.f9 false true false false) := by
  refine returnsInHanded_of_change (C := Try.checked) own started (by kernel_rfl) Try.func9
    (ChangeSpec.witness6 (enc := enc) (C := Try.checked) false ⟨#[], #[.int .u64 0, .slice none 0 0, .int .u64 0], []⟩ 8 (by kernel_rfl) (by kernel_rfl) (by kernel_rfl) (by kernel_rfl)) ?_
  intro W base args ds gs before hval0 hW _ _
  have hval : ∀ (j : Nat) t v, Try.f9.params[j]? = some t → args[j]? = some v → Value.okWide Try.prog W .any base t v := hval0
  have hW' := hW
  obtain ⟨p, q, hA0, hV, rfl, -, -⟩ := hW
  have hA : DataW.TrodAll enc Try.prog W 0 (fun _ => true) true Try.f9.params.toList args.toList ds p := hA0
  rw [Try.params9] at hA hval
  obtain ⟨v0, vs0, d0, ds0, p0, q0, hargs, rfl, rfl, h0, r0⟩ := trodAll_cons hA
  obtain ⟨v1, vs1, d1, ds1, p1, q1, rfl, rfl, rfl, h1, r1⟩ := trodAll_cons r0
  obtain ⟨v2, vs2, d2, ds2, p2, q2, rfl, rfl, rfl, h2, r2⟩ := trodAll_cons r1
  obtain ⟨rfl, rfl, rfl⟩ := trodAll_nil r2
  obtain rfl : args = #[v0, v1, v2] := by cases args; simp_all
  obtain ⟨rfl, rfl⟩ := trodVars_none hV
  obtain ⟨a0, rfl, rfl, rfl, w0⟩ := open_int Try.underlying25 (hval 0 25 v0 rfl rfl) h0
  obtain ⟨a1, w1⟩ := ints_arg Try.underlying44 Try.underlying45 (by kernel_rfl) (hval 1 44 v1 rfl rfl) h1
  obtain ⟨a2, rfl, rfl, rfl, w2⟩ := open_int Try.underlying25 (hval 2 25 v2 rfl rfl) h2
  clear hA0 hval0
  refine (walk a0 v1 a1 a2 W w0 w1 w2).mono fun e W' ⟨he, hb⟩ => ?_
  subst he
  exact ⟨_, rfl, post_law laidOut (by kernel_rfl) rfl (by kernel_rfl) Try.underlying4 hW' rfl hb⟩

/-- **TreeTurns**: the given statement. -/
theorem proved : Rows.TreeTurnsSaid :=
  OpenClaim.holds_of_wide 9 Try.f9 rfl rfl rfl rfl rfl rfl rfl ⟨rfl, rfl, rfl, rfl, rfl⟩ rfl rfl rfl rfl rfl (by kernel_rfl) Try.func9 (by kernel_rfl)
    (of_decide_eq_true (by kernel_rfl)) (by unfold Func.isWrapper; first | (rw [if_pos (by decide +kernel)]; kernel_rfl) | (rw [if_neg (by decide +kernel)]; exact ⟨rfl, rfl⟩))
    (fun os started H enc _ => lifted os started H enc)
end Go.Proofs.Ytgjacmkedgbneaa.treeTurns
