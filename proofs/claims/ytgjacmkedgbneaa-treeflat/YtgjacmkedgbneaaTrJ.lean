/-
  Plain facts on trees: mending comes to a right tree.
-/
import Derived.Test.YtgjacmkedgbneaaTrI
namespace Go.Proofs.Ytgjacmkedgbneaa
namespace Tr
open Wd Tn Ky

/-- The frame, painted. -/
def F.paint (f : F) (c : Bool) : F := { f with c := c }
theorem Z.paintUp {t : T} {b : B} {f : F} {fs : List F} (h : Z t b (f :: fs)) (c : Bool) : Z (t.paint f.i c) b (f.paint c :: fs) := by
  rw [Z_step] at h ⊢
  exact h.paint c
/-- Seen from the other child. -/
theorem Z.over {t : T} {b : B} {f : F} {fs : List F} (h : Z t b (f :: fs)) : Z t f.o (⟨!f.s, f.i, f.c, f.v, b⟩ :: fs) := by
  rw [Z_step] at h ⊢
  unfold F.put at h ⊢
  simp only
  rw [← bn_swap]
  exact h
theorem kid_frame {t : T} {b : B} {f : F} {fs : List F} (h : Z t b (f :: fs)) : t.kid f.i f.s = b.rid ∧ t.kid f.i (!f.s) = f.o.rid ∧ t.has f.i ∧ t.redB f.i = f.c ∧ t.up f.i = upOf fs := by
  obtain ⟨h1, h2, -⟩ := h.ctx
  have k := nodeOf_kid f.s f.c f.v b.rid f.o.rid (upOf fs)
  refine ⟨by unfold T.kid; rw [h2]; exact k.1, by unfold T.kid; rw [h2]; exact k.2.1, h1, by rw [redB_of h1, h2]; exact k.2.2.2, by unfold T.up; rw [h2]; exact k.2.2.1⟩
theorem red_split {b : B} (h : b.isRed = true) (s : Bool) : ∃ i v x o, b = bn s i true v x o := by
  cases b with
  | L => cases h
  | N i c v k => rw [B.isRed] at h; subst h; exact ⟨i, v, k s, k (!s), bn_eta s i true v k⟩

set_option maxHeartbeats 1000000 in
theorem mend_all : (len : Nat) → ∀ {fs : List F} {t : T} {b : B} {n : Nat}, fs.length ≤ len → Z t b fs → b.isRed = true → Rb b n → RbC fs n → Mended t b.rid (plug b fs).keys
  | len, [], t, b, n, _, h, hr, hb, hc => by
    obtain ⟨t', b', q⟩ := mend_done h hr hb hc rfl 0
    exact ⟨0, t', b', q⟩
  | len, [f], t, b, n, hlen, h, hr, hb, hc => by
    cases hfc : f.c with
    | false =>
      obtain ⟨t', b', q⟩ := mend_done h hr hb hc hfc 0
      exact ⟨0, t', b', q⟩
    | true => exact absurd rfl (hc.2.1 hfc).2.2
  | 0, f :: g :: fs, t, b, n, hlen, h, hr, hb, hc => by simp at hlen
  | 1, f :: g :: fs, t, b, n, hlen, h, hr, hb, hc => by simp at hlen
  | len + 2, f :: g :: fs, t, b, n, hlen, h, hr, hb, hc => by
    cases hfc : f.c with
    | false =>
      obtain ⟨t', b', q⟩ := mend_done h hr hb hc hfc 0
      exact ⟨0, t', b', q⟩
    | true =>
      obtain ⟨c1, c2, c3⟩ := hc
      obtain ⟨c4, c5, -⟩ := c2 hfc
      have hgc : g.c = false := c5
      rw [hfc, if_pos rfl] at c3
      obtain ⟨c6, -, c7⟩ := c3
      rw [hgc, if_neg (by decide)] at c7
      have hx : b.rid ≠ -1 := by
        obtain ⟨i, v, x, o, rfl⟩ := red_split hr false
        exact has_ne ((Sub_bn ..).1 h.sub).1
      obtain ⟨e1, e2, e3⟩ := h.side hx
      obtain ⟨kf1, kf2, kf3, kf4, kf5⟩ := kid_frame h
      rw [hfc] at kf4
      have h2 : Z t (f.put b) (g :: fs) := (Z_step ..).1 h
      have hp0 : (f.put b).rid = f.i := rfl
      obtain ⟨g1, g2, g3⟩ := h2.side (by rw [hp0]; exact has_ne kf3)
      rw [hp0] at g1 g2
      obtain ⟨kg1, kg2, kg3, kg4, kg5⟩ := kid_frame h2
      have hu : t.ok g.o.rid := (h2.ctx.2.2.1).ok
      have hured : t.redB g.o.rid = g.o.isRed := (h2.ctx.2.2.1).red
      cases hgo : g.o.isRed with
      | true =>
        -- the uncle is Red
        obtain ⟨iu, vu, xu, ou, hou⟩ := red_split hgo (!g.s)
        have hsu := h2.ctx.2.2.1
        rw [hou] at hsu
        have hup : t.has g.o.rid := by rw [hou]; exact ((Sub_bn ..).1 hsu).1
        have z1 : Z (t.paint f.i false) b (f.paint false :: g :: fs) := h.paintUp false
        have z2 : Z (t.paint f.i false) ((f.paint false).put b) (g :: fs) := (Z_step ..).1 z1
        have z3 := z2.over
        rw [hou] at z3
        have z4 := z3.paint false
        have z5 := z4.paintUp true
        have z6 := (Z_step ..).1 z5
        obtain ⟨r1, r2, r3, r4⟩ := (Rb_red ..).1 (by rw [hou] at c6; exact c6)
        have hPr : Rb ((f.paint false).put b) (n + 1) := (Rb_black ..).2 ⟨n, rfl, hb, c1⟩
        have hUr : Rb (bn (!g.s) iu false vu xu ou) (n + 1) := (Rb_black ..).2 ⟨n, rfl, r3, r4⟩
        have hGr : Rb (bn (!g.s) g.i true g.v (bn (!g.s) iu false vu xu ou) ((f.paint false).put b)) (n + 1) := (Rb_red ..).2 ⟨rfl, rfl, hUr, hPr⟩
        obtain ⟨k, t', b', m1, m2, m3, m4, m5⟩ := mend_all len (by simp at hlen; omega) z6 rfl hGr c7
        refine ⟨k + 1, t', b', .up k t t' b.rid f.i g.i g.o.rid g.s e3 e1 kf3 kf4 g1 kg3 g2 kg2 hup (by rw [hured, hgo]) ?_, m2, m3, m4, ?_⟩
        · have : g.o.rid = iu := by rw [hou]; rfl
          rw [this]
          exact m1
        · rw [m5]
          show _ = (plug (g.put (f.put b)) fs).keys
          refine keys_plug ?_
          show (bn (!g.s) g.i true g.v (bn (!g.s) iu false vu xu ou) (bn f.s f.i false f.v b f.o)).keys = (bn g.s g.i g.c g.v (bn f.s f.i f.c f.v b f.o) g.o).keys
          rw [hou, bn_swap g.s]
          simp only [keys_bn]
      | false =>
        rw [hgo] at hured
        have hxne : f.o.rid ≠ b.rid := fun e => by
          rcases rid_mem f.o with w | w
          · exact hx (e.symm.trans w)
          · have hb' := (rid_mem b).resolve_left hx
            have hd := h.nod
            rw [List.nodup_append] at hd
            exact hd.2.2 b.rid hb' f.o.rid (by simp [idsC, w]) e.symm
        by_cases hs : f.s = g.s
        · -- on the outer side
          have z1 : Z (t.paint f.i false) ((f.paint false).put b) (g :: fs) := (Z_step ..).1 (h.paintUp false)
          have z2 : Z ((t.paint f.i false).paint g.i true) ((g.paint true).put ((f.paint false).put b)) fs := (Z_step ..).1 (z1.paintUp true)
          have z3 : Z ((t.paint f.i false).paint g.i true) (bn (!g.s) g.i true g.v g.o (bn (!g.s) f.i false f.v f.o b)) fs := by
            have e : (g.paint true).put ((f.paint false).put b) = bn (!g.s) g.i true g.v g.o (bn (!g.s) f.i false f.v f.o b) := by
              show bn g.s g.i true g.v (bn f.s f.i false f.v b f.o) g.o = _
              rw [bn_swap g.s, hs, bn_swap g.s f.i]
            rw [← e]; exact z2
          obtain ⟨tok, z4⟩ := z3.turn
          have z5 : Z (((t.paint f.i false).paint g.i true).turn g.i (!g.s)) b (⟨g.s, f.i, false, f.v, bn (!g.s) g.i true g.v g.o f.o⟩ :: fs) := by
            rw [Z_step]
            show Z _ (bn g.s f.i false f.v b _) fs
            rw [bn_swap g.s]
            exact z4
          have hG : Rb (bn (!g.s) g.i true g.v g.o f.o) n := (Rb_red ..).2 ⟨hgo, c4, c6, c1⟩
          obtain ⟨t', b', m1, m2, m3, m4, m5⟩ := mend_done z5 hr hb ⟨hG, (fun e => by cases e), c7⟩ rfl 0
          refine ⟨1, t', b', .out 0 t t' b.rid f.i g.i g.o.rid g.s e3 e1 kf3 kf4 g1 kg3 g2 kg2 hu hured (by rw [e2, hs]) (by rw [← hs, kf2]; exact hxne) tok m1, m2, m3, m4, ?_⟩
          rw [m5]
          show (plug (bn g.s f.i false f.v b (bn (!g.s) g.i true g.v g.o f.o)) fs).keys = (plug (bn g.s g.i g.c g.v (bn f.s f.i f.c f.v b f.o) g.o) fs).keys
          refine keys_plug ?_
          rw [hs]
          cases g.s <;> simp [keys_bn]
        · -- on the inner side
          have hs' : f.s = !g.s := by cases hf : f.s <;> cases hg : g.s <;> simp_all
          obtain ⟨i, v, M, D, hbe⟩ := red_split hr g.s
          have hi : b.rid = i := by rw [hbe]; rfl
          obtain ⟨q1, q2, q3, q4⟩ := (Rb_red ..).1 (by rw [hbe] at hb; exact hb)
          have z1 : Z t (bn g.s f.i true f.v f.o (bn g.s i true v M D)) (g :: fs) := by
            have e : f.put b = bn g.s f.i true f.v f.o (bn g.s i true v M D) := by
              show bn f.s f.i f.c f.v b f.o = _
              rw [hs', hfc, bn_swap g.s f.i, hbe]
            rw [← e]; exact h2
          obtain ⟨tok1, z2⟩ := z1.turn
          have hup1 : (t.turn f.i g.s).up f.i = i := by
            have q := ((Sub_bn ..).1 ((Sub_bn ..).1 z2.sub).2.2.1).2.1
            unfold T.up
            rw [q]
            exact (nodeOf_kid ..).2.2.1
          have z3 := z2.paint false
          have z4 : Z (((t.turn f.i g.s).paint i false).paint g.i true) ((g.paint true).put (bn g.s i false v (bn g.s f.i true f.v f.o M) D)) fs := (Z_step ..).1 (z3.paintUp true)
          have z5 : Z (((t.turn f.i g.s).paint i false).paint g.i true) (bn (!g.s) g.i true g.v g.o (bn (!g.s) i false v D (bn g.s f.i true f.v f.o M))) fs := by
            have e : (g.paint true).put (bn g.s i false v (bn g.s f.i true f.v f.o M) D) = bn (!g.s) g.i true g.v g.o (bn (!g.s) i false v D (bn g.s f.i true f.v f.o M)) := by
              show bn g.s g.i true g.v (bn g.s i false v (bn g.s f.i true f.v f.o M) D) g.o = _
              rw [bn_swap g.s g.i, bn_swap g.s i]
            rw [← e]; exact z4
          obtain ⟨tok2, z6⟩ := z5.turn
          have z7 : Z ((((t.turn f.i g.s).paint i false).paint g.i true).turn g.i (!g.s)) (bn g.s f.i true f.v f.o M) (⟨g.s, i, false, v, bn (!g.s) g.i true g.v g.o D⟩ :: fs) := by
            rw [Z_step]
            show Z _ (bn g.s i false v (bn g.s f.i true f.v f.o M) _) fs
            rw [bn_swap g.s i]
            exact z6
          have hP : Rb (bn g.s f.i true f.v f.o M) n := (Rb_red ..).2 ⟨c4, q1, c1, q3⟩
          have hG : Rb (bn (!g.s) g.i true g.v g.o D) n := (Rb_red ..).2 ⟨hgo, q2, c6, q4⟩
          obtain ⟨t', b', m1, m2, m3, m4, m5⟩ := mend_done z7 rfl hP ⟨hG, (fun e => by cases e), c7⟩ rfl 0
          refine ⟨1, t', b', .inn 0 t t' b.rid f.i g.i g.o.rid g.s e3 e1 kf3 kf4 g1 kg3 g2 kg2 hu hured (by rw [e2, hs']) (by rw [← hs', kf1]) tok1 (by rw [hup1, hi]) (by rw [hi]; exact tok2) (by rw [hi]; exact m1), m2, m3, m4, ?_⟩
          rw [m5]
          show (plug (bn g.s i false v (bn g.s f.i true f.v f.o M) (bn (!g.s) g.i true g.v g.o D)) fs).keys = (plug (bn g.s g.i g.c g.v (bn f.s f.i f.c f.v b f.o) g.o) fs).keys
          refine keys_plug ?_
          rw [hs', hbe]
          cases g.s <;> simp [keys_bn]
end Tr
end Go.Proofs.Ytgjacmkedgbneaa
