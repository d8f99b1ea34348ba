/-
  Trees by value that calls tell one another (St); a tree in its box, read; what mending's parts are.
-/
import Derived.Test.YtgjacmkedgbneaaTyF
import Derived.Test.YtgjacmkedgbneaaTwD
namespace Go.Proofs.Ytgjacmkedgbneaa
open Go.RowKit Go.Sort Ky Wd Tn Tr

/-- Behind a world w, in which a tree lay at v, a tree t1 lies at v1 in w1. -/
structure St (w : World) (v : Value) (t1 : T) (w1 : World) (v1 : Value) : Prop where
  nd : Nds w1 v1 t1.ns
  bl : Below w.heap.size w w1
  dj : v1 = v ∨ Fresh w.heap.size v1
section
variable {w w1 w2 : World} {v v1 v2 : Value} {t t1 t2 : T}
theorem St.refl (h : Nds w v t.ns) : St w v t w v := ⟨h, Below.refl _ _, .inl rfl⟩
theorem St.rt (h : St w v t1 w1 v1) (hN : Nds w2 v2 t2.ns) (hb : Below w1.heap.size w1 w2) (hd : v2 = v1 ∨ Fresh w1.heap.size v2) : St w v t2 w2 v2 := by
  refine ⟨hN, h.bl.trans (hb.mono h.bl.size), ?_⟩
  rcases hd with rfl | hf
  · exact h.dj
  · exact .inr (hf.mono h.bl.size)
theorem St.gr (h : St w v t1 w1 v1) (hg : Gr w1 w2) : St w v t1 w2 v1 := h.rt (h.nd.below hg.below) hg.below (.inl rfl)
/-- A call tells a tree, behind others. -/
def Rs (w : World) (v : Value) (t : T) (e : Ending) (w' : World) : Prop := ∃ v', e = .returned (.agg #[.int .i64 t.root, v']) ∧ St w v t w' v'
theorem St.calls_rt {P : Program} {f : FuncId} {args : Array Value} (h : St w v t1 w1 v1) (hc : Calls P f args w1 (Rt w1 v1 t2)) : Calls P f args w1 (Rs w v t2) := by
  refine hc.mono ?_
  rintro e w' ⟨v', rfl, hN, hb, hd⟩
  exact ⟨v', rfl, h.rt hN hb hd⟩
theorem St.calls_rf {P : Program} {f : FuncId} {args : Array Value} (h : St w v t1 w1 v1) (hc : Calls P f args w1 (Rf w1 t2)) : Calls P f args w1 (Rs w v t2) := by
  refine hc.mono ?_
  rintro e w' ⟨v', rfl, hN, hb, hd⟩
  exact ⟨v', rfl, h.rt hN hb (.inr hd)⟩
theorem St.paint (h : St w v t1 w1 v1) (hl : t1.ns.length ≤ 1000) {x : Int} (hx : t1.has x) (b : Bool) : Calls Try.prog 44 #[.agg #[.int .i64 t1.root, v1], .int .i64 x, .bool b] w1 (Rs w v (t1.paint x b)) := h.calls_rf (rpaint_at h.nd hl hx b)
theorem St.turn (h : St w v t1 w1 v1) (hl : t1.ns.length ≤ 1000) {x : Int} (s : Bool) (ht : TurnOk t1 x s) : Calls Try.prog 69 #[.agg #[.int .i64 t1.root, v1], .int .i64 x, .int .i64 (sI s)] w1 (Rs w v (t1.turn x s)) := h.calls_rt (rturn_at h.nd hl s ht.hx ht.hu ht.hr ht.hk)
theorem St.hang (h : St w v t1 w1 v1) (hl : t1.ns.length ≤ 1000) {u : Int} (hu : t1.ok u) (s : Bool) {y : Int} (hy : t1.ok y) : Calls Try.prog 39 #[.agg #[.int .i64 t1.root, v1], .int .i64 u, .int .i64 (sI s), .int .i64 y] w1 (Rs w v (t1.hang u s y)) := h.calls_rt (rhang_at h.nd hl hu s hy)
theorem St.put (h : St w v t1 w1 v1) (hl : t1.ns.length ≤ 1000) {x : Int} (hx : t1.has x) (n : N) (hU : U n.v) : Calls Try.prog 40 #[.agg #[.int .i64 t1.root, v1], .int .i64 x, nv n] w1 (Rs w v (t1.put x n)) := h.calls_rf (put_rt h.nd hl hx n hU)
end
section
variable {W w w1 : World} {v0 v v1 : Value} {t t1 : T}
theorem Bx.s (h : Bx W w v0 t v) : St w v t w v := .refl h.nd
theorem Bx.st (h : Bx W w v0 t v) (s : St w v t1 w1 v1) (hn : t1.ns.length = t.ns.length) : Bx W ((w1.setCell ⟨W.heap.size, 0, none⟩ (.int .i64 t1.root)).setCell ⟨W.heap.size, 1, none⟩ v1) v0 t1 v1 := h.rt s.nd s.bl s.dj hn
theorem Bx.stc (h : Bx W w v0 t v) (s : St w v t1 w1 v1) : w1.cell? ⟨W.heap.size, 0, none⟩ = some (.int .i64 t.root) ∧ w1.cell? ⟨W.heap.size, 1, none⟩ = some v ∧ w1.frozen? ⟨W.heap.size, 0, none⟩ = false ∧ w1.frozen? ⟨W.heap.size, 1, none⟩ = false := (h.tb.below s.bl h.tb.lt).all
theorem Bx.fst (h : Bx W w v0 t v) (s : St w v t1 w1 v1) (hn : t1.ns.length = t.ns.length) : Fx W ((w1.setCell ⟨W.heap.size + 1, 0, none⟩ (.int .i64 t1.root)).setCell ⟨W.heap.size + 1, 1, none⟩ v1) v0 t1 v1 := h.finRt s.nd s.bl s.dj hn
theorem Bx.fstc (h : Bx W w v0 t v) (s : St w v t1 w1 v1) : w1.cell? ⟨W.heap.size + 1, 0, none⟩ = some (.int .i64 0) ∧ w1.cell? ⟨W.heap.size + 1, 1, none⟩ = some (.slice none 0 0) ∧ w1.frozen? ⟨W.heap.size + 1, 0, none⟩ = false ∧ w1.frozen? ⟨W.heap.size + 1, 1, none⟩ = false := (h.rb.below s.bl h.rb.lt).all
theorem Nds.nc {w : World} {nb off n cap : Nat} {l : List N} (h : Nds w (.slice (some ⟨nb, off, none⟩) n cap) l) {k : Nat} (hk : k < l.length) : Nc w nb (off + k * 6) (l.getD k nE) := by
  obtain ⟨nb', off', cap', he, -, -, hnc⟩ := h.at hk
  simp only [Value.slice.injEq, Option.some.injEq, Addr.mk.injEq] at he
  obtain ⟨⟨rfl, rfl, -⟩, -, rfl⟩ := he
  exact hnc
theorem Nds.upc {w : World} {nb off n cap : Nat} {t : T} (h : Nds w (.slice (some ⟨nb, off, none⟩) n cap) t.ns) {k : Nat} (hk : k < t.ns.length) : w.cell? ⟨nb, off + k * 6 + 5, none⟩ = some (.int .i64 (t.up k)) := by
  have := (h.nc hk).2.2.2.2.2
  unfold T.up T.nd
  rw [Int.toNat_natCast]
  exact this
theorem Nds.redc {w : World} {nb off n cap : Nat} {t : T} (h : Nds w (.slice (some ⟨nb, off, none⟩) n cap) t.ns) {k : Nat} (hk : k < t.ns.length) : w.cell? ⟨nb, off + k * 6 + 1, none⟩ = some (.bool (t.nd k).red) := by
  have := (h.nc hk).2.1
  unfold T.nd
  rw [Int.toNat_natCast]
  exact this
end
theorem sI_sub (s : Bool) : IntKind.wrap .i64 (1 - sI s) = sI (!s) := by cases s <;> rfl
theorem sI_ne (s : Bool) : (sI (!s) == sI s) = false := by cases s <;> rfl
theorem sI_eq (s : Bool) : (sI s == sI s) = true := by simp

theorem rmend_parts {n : Nat} {t t' : T} {x : Int} (h : Mend n t x t') :
    (t.has x ∧ t.ok (t.up x) ∧ t.redB (t.up x) = false ∧ t.has t.root ∧ t' = t.paint t.root false) ∨
    ∃ (m : Nat) (p g u : Int) (s : Bool), n = m + 1 ∧ t.has x ∧ t.up x = p ∧ t.has p ∧ t.redB p = true ∧ t.up p = g ∧ t.has g ∧ t.side p = s ∧ t.kid g (!s) = u ∧ t.ok u ∧
      ((t.redB u = true ∧ t.has u ∧ Mend m (((t.paint p false).paint u false).paint g true) g t') ∨
       (t.redB u = false ∧ t.side x = s ∧ TurnOk ((t.paint p false).paint g true) g (!s) ∧ Mend m (((t.paint p false).paint g true).turn g (!s)) x t') ∨
       (t.redB u = false ∧ t.side x = !s ∧ TurnOk t p s ∧ (t.turn p s).up p = x ∧ TurnOk (((t.turn p s).paint x false).paint g true) g (!s) ∧ Mend m ((((t.turn p s).paint x false).paint g true).turn g (!s)) p t')) := by
  cases h with
  | done n t x hx hu hr h0 => exact .inl ⟨hx, hu, hr, h0, rfl⟩
  | up n t _ x p g u s hx ep hp rp eg hg es eu hu ru rest => exact .inr ⟨_, p, g, u, s, rfl, hx, ep, hp, rp, eg, hg, es, eu, .inr hu, .inl ⟨ru, hu, rest⟩⟩
  | out n t _ x p g u s hx ep hp rp eg hg es eu hu ru ex nx ht rest => exact .inr ⟨_, p, g, u, s, rfl, hx, ep, hp, rp, eg, hg, es, eu, hu, .inr (.inl ⟨ru, ex, ht, rest⟩)⟩
  | inn n t _ x p g u s hx ep hp rp eg hg es eu hu ru ex nx h1 e1 ht rest => exact .inr ⟨_, p, g, u, s, rfl, hx, ep, hp, rp, eg, hg, es, eu, hu, .inr (.inr ⟨ru, ex, h1, e1, ht, rest⟩)⟩
end Go.Proofs.Ytgjacmkedgbneaa
