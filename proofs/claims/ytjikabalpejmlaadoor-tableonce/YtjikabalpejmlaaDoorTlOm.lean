/-
  TableOnce in memory: the table in its box, who was told and who has gone in two slices of the call's own; what stays as these grow.
-/
import Derived.Test.YtjikabalpejmlaaDoorTlV
import Derived.Test.YtjikabalpejmlaaDoorTlMz
import Derived.Test.YtjikabalpejmlaaDoorSlH
import Derived.Test.YtjikabalpejmlaaDoorTlOn
namespace Go.Proofs.YtjikabalpejmlaaDoor
open Go.RowKit Go.Deep Go.ChangeAt Pk Lf
open Mk (V allM cpus fstI anyB)

/-- A slice of the call's own lies in another block than a table's two. -/
def Sep (u : Value) (a b : Option Addr) : Prop := ∀ r, u.ownBlock = some r → (∀ q, a = some q → q.block ≠ r) ∧ (∀ q, b = some q → q.block ≠ r)
theorem Tv.grown {w w' : World} {a : Option Addr} {l p : Nat} {b : Option Addr} {m q : Nat} {t : Tl.T} (h : Tv w (.agg #[.slice a l p, .slice b m q]) t) {u : Value} (hg : w.grownBy w' u.ownBlock) (hs : Sep u a b) :
    Tv w' (.agg #[.slice a l p, .slice b m q]) t := by
  obtain ⟨c0, c1, e, ⟨a', cap, e0, hm, hw, hc⟩, ⟨b', cap', e1, hm', hw', hc'⟩⟩ := h
  simp only [Value.agg.injEq, Array.mk.injEq, List.cons.injEq, and_true] at e
  obtain ⟨rfl, rfl⟩ := e
  have key : ∀ (z : Addr) (y : Value), (∀ r, u.ownBlock = some r → z.block ≠ r) → w.cell? z = some y → w'.cell? z = some y := fun z y hz hy => by
    rw [World.cell?_of_block (hg.block z.block (World.block_lt_of_cell? w z hy) (fun e => hz z.block e.symm rfl))]
    exact hy
  refine ⟨_, _, rfl, ⟨a', cap, e0, hm, hw, fun hz => ?_⟩, ⟨b', cap', e1, hm', hw', fun hz => ?_⟩⟩
  · obtain ⟨b0, off, rfl, hc2⟩ := hc hz
    simp only [Value.slice.injEq] at e0
    exact ⟨b0, off, rfl, fun i hi => key _ _ (fun r hr => show b0 ≠ r from (hs r hr).1 _ e0.1) (hc2 i hi)⟩
  · obtain ⟨b0, off, rfl, hc2⟩ := hc' hz
    simp only [Value.slice.injEq] at e1
    refine ⟨b0, off, rfl, fun i hi j hj => ?_⟩
    have h0 := hc2 i hi j hj
    have hy : ∃ y, (encK.f (t.ts.getD i encK.d))[j]? = some y := ⟨_, List.getElem?_eq_getElem (by rw [encK.len]; exact hj)⟩
    obtain ⟨y, hy⟩ := hy
    rw [hy] at h0 ⊢
    exact key _ _ (fun r hr => show b0 ≠ r from (hs r hr).2 _ e1.1) h0
/-- A table that is not empty lies below the end of the heap. -/
theorem Tv.lt {w : World} {a : Option Addr} {l p : Nat} {b : Option Addr} {m q : Nat} {t : Tl.T} (h : Tv w (.agg #[.slice a l p, .slice b m q]) t) (hl : 0 < l) (hm : 0 < m) :
    (∀ z, a = some z → z.block < w.heap.size) ∧ (∀ z, b = some z → z.block < w.heap.size) := by
  obtain ⟨c0, c1, e, hI, hK⟩ := h
  simp only [Value.agg.injEq, Array.mk.injEq, List.cons.injEq, and_true] at e
  obtain ⟨rfl, rfl⟩ := e
  refine ⟨fun z hz => ?_, fun z hz => ?_⟩
  · rcases hI.parts with ⟨h, a', c', e⟩ | ⟨-, -, b0, off, c', e, hb, -⟩
    · simp only [Value.slice.injEq] at e; omega
    · simp only [Value.slice.injEq] at e
      rw [e.1] at hz; cases hz; exact hb
  · rcases Ks.parts hK with ⟨h, a', c', e⟩ | ⟨-, b0, off, c', e, -, hb, -⟩
    · simp only [Value.slice.injEq] at e; omega
    · simp only [Value.slice.injEq] at e
      rw [e.1] at hz; cases hz; exact hb
theorem Sep.far {w : World} {B : Nat} {e : TypeId} {u : Value} {l : List Tl.Hd} (h : OwnE encH w B e u l) {a b : Option Addr} (ha : ∀ q, a = some q → w.heap.size ≤ q.block) (hb : ∀ q, b = some q → w.heap.size ≤ q.block) : Sep u a b := fun r hr => by
  have := (World.ownsRow.lt h r hr).2
  exact ⟨fun q hq => by have := ha q hq; omega, fun q hq => by have := hb q hq; omega⟩
/-- The state between two calls. -/
structure Ots (w : World) (n : Nat) (u v : Value) (a : Option Addr) (p : Nat) (b : Option Addr) (q : Nat) (t : Tl.T) (l gl : List Tl.Hd) : Prop where
  box : Bt w n (.slice a 4 p) (.slice b 4 q)
  tv : Tv w (.agg #[.slice a 4 p, .slice b 4 q]) t
  told : OwnE encH w (n + 1) 27 u l
  gone : OwnE encH w (n + 1) 27 v gl
  su : Sep u a b
  sv : Sep v a b
  uv : u.ownBlock = none ∨ v.ownBlock = none ∨ u.ownBlock ≠ v.ownBlock
theorem Ots.below {w w' : World} {n : Nat} {u v : Value} {a : Option Addr} {p : Nat} {b : Option Addr} {q : Nat} {t : Tl.T} {l gl : List Tl.Hd} (h : Ots w n u v a p b q t l gl) (hb : Below w.heap.size w w') : Ots w' n u v a p b q t l gl :=
  ⟨h.box.below hb, h.tv.below hb, h.told.below hb, h.gone.below hb, h.su, h.sv, h.uv⟩
theorem box_grown {w w' : World} {n : Nat} {c0 c1 : Value} (h : Bt w n c0 c1) {u : Value} (hg : w.grownBy w' u.ownBlock) (hu : u.ownBlock ≠ some n) : Bt w' n c0 c1 :=
  (hg.block n h.lt (fun e => hu e.symm)).trans h
/-- One more is told. -/
theorem Ots.tell {w w' : World} {n : Nat} {u u' v : Value} {a : Option Addr} {p : Nat} {b : Option Addr} {q : Nat} {t : Tl.T} {l gl : List Tl.Hd} {x : Tl.Hd} (h : Ots w n u v a p b q t l gl) (ho : OwnE encH w' (n + 1) 27 u' (l ++ [x]))
    (hg : w.grownBy w' u.ownBlock) (hloc : u'.ownBlock = u.ownBlock ∨ ∃ r, u'.ownBlock = some r ∧ w.heap.size ≤ r) : Ots w' n u' v a p b q t (l ++ [x]) gl := by
  have hlt := h.tv.lt (by decide) (by decide)
  refine ⟨box_grown h.box hg (fun e => by have := (World.ownsRow.lt h.told n e).1; omega), h.tv.grown hg h.su, ho, h.gone.apart hg (by rcases h.uv with e | e | e; exact .inr (.inl e); exact .inl e; exact .inr (.inr (fun x => e x.symm))), ?_, h.sv, ?_⟩
  · rcases hloc with e | ⟨r, e, hr⟩
    · intro r hr; rw [e] at hr; exact h.su r hr
    · intro r' hr'
      rw [e] at hr'; cases hr'
      exact ⟨fun z hz => by have := hlt.1 z hz; omega, fun z hz => by have := hlt.2 z hz; omega⟩
  · rcases hloc with e | ⟨r, e, hr⟩
    · rw [e]; exact h.uv
    · cases hv : v.ownBlock with
      | none => exact .inr (.inl rfl)
      | some s =>
        refine .inr (.inr fun x => ?_)
        rw [e] at x; cases x
        have := (World.ownsRow.lt h.gone _ hv).2
        omega
/-- One more has gone. -/
theorem Ots.goes {w w' : World} {n : Nat} {u v v' : Value} {a : Option Addr} {p : Nat} {b : Option Addr} {q : Nat} {t : Tl.T} {l gl : List Tl.Hd} {x : Tl.Hd} (h : Ots w n u v a p b q t l gl) (ho : OwnE encH w' (n + 1) 27 v' (gl ++ [x]))
    (hg : w.grownBy w' v.ownBlock) (hloc : v'.ownBlock = v.ownBlock ∨ ∃ r, v'.ownBlock = some r ∧ w.heap.size ≤ r) : Ots w' n u v' a p b q t l (gl ++ [x]) := by
  have hh : Ots w n v u a p b q t gl l := ⟨h.box, h.tv, h.gone, h.told, h.sv, h.su, by rcases h.uv with e | e | e; exact .inr (.inl e); exact .inl e; exact .inr (.inr (fun x => e x.symm))⟩
  have h2 := hh.tell ho hg hloc
  exact ⟨h2.box, h2.tv, h2.gone, h2.told, h2.sv, h2.su, by rcases h2.uv with e | e | e; exact .inr (.inl e); exact .inl e; exact .inr (.inr (fun x => e x.symm))⟩
theorem OwnE.setb {w : World} {n B : Nat} {e : TypeId} {v : Value} {l : List Tl.Hd} (h : OwnE encH w B e v l) (hn : n < B) (i : Nat) (x : Value) : OwnE encH (w.setCell ⟨n, i, none⟩ x) B e v l :=
  World.ownsRow.kept (row := some n) h ⟨rfl, rfl, rfl, by simp [World.setCell], fun k _ hk => Below.heap_setCell _ _ _ k (fun e => hk (by rw [e]))⟩ (by
    cases hv : v.ownBlock with
    | none => simp
    | some r => exact .inr (fun e => by have h1 := (World.ownsRow.lt h r hv).1; simp only [Option.some.injEq] at e; omega))
/-- The box is written into. -/
theorem Ots.store {w : World} {n : Nat} {u v : Value} {a : Option Addr} {p : Nat} {b : Option Addr} {q : Nat} {t t' : Tl.T} {l gl : List Tl.Hd} (h : Ots w n u v a p b q t l gl) {a' : Option Addr} {p' : Nat} {b' : Option Addr} {q' : Nat}
    (hv : Tv w (.agg #[.slice a' 4 p', .slice b' 4 q']) t') (hu : Sep u a' b') (hs : Sep v a' b') : Ots ((w.setCell ⟨n, 0, none⟩ (.slice a' 4 p')).setCell ⟨n, 1, none⟩ (.slice b' 4 q')) n u v a' p' b' q' t' l gl :=
  ⟨h.box.set _ _, gives_set hv h.box rfl rfl, (h.told.setb (Nat.lt_succ_self n) 0 _).setb (Nat.lt_succ_self n) 1 _, (h.gone.setb (Nat.lt_succ_self n) 0 _).setb (Nat.lt_succ_self n) 1 _, hu, hs, h.uv⟩
end Go.Proofs.YtjikabalpejmlaaDoor
