/-
  A tree by value at work in a function of turnspitref09: its box, the result's box; the contract of turn.
-/
import Derived.Test.YtgjacmkedgbneaaTyD
namespace Go.Proofs.Ytgjacmkedgbneaa
open Go.RowKit Go.Sort Ky Wd Tn Tr

/-- A tree in its box, of a function that tells a tree. -/
structure Bx (W w : World) (v0 : Value) (t : T) (v : Value) : Prop where
  tb : Tb w W.heap.size t.root v 24
  rb : Tb w (W.heap.size + 1) 0 (.slice none 0 0) 24
  nd : Nds w v t.ns
  bl : Below W.heap.size W w
  cl : Clear W.heap.size (W.heap.size + 1) v t.ns
  dj : v = v0 ∨ Fresh W.heap.size v
section
variable {W w w' : World} {v0 v v' : Value} {t t' : T}
theorem Bx.start (hN : Nds W v t.ns) : Bx W ((W.alloc (.cells #[.int .i64 t.root, v] 24)).alloc (.cells #[.int .i64 0, .slice none 0 0] 24)) v t v := by
  have HT := Tb.new W t.root v 24
  have HT1 := HT.below (Gr.alloc _ (.cells #[.int .i64 0, .slice none 0 0] 24)).below HT.lt
  have HR1 := Tb.new (W.alloc (.cells #[.int .i64 t.root, v] 24)) 0 (.slice none 0 0) 24
  rw [show (W.alloc (.cells #[.int .i64 t.root, v] 24)).heap.size = W.heap.size + 1 by simp] at HR1
  have HB1 := ((Below.refl W.heap.size W).alloc (Nat.le_refl _) (.cells #[.int .i64 t.root, v] 24)).alloc (by simp) (.cells #[.int .i64 0, .slice none 0 0] 24)
  exact ⟨HT1, HR1, hN.below HB1, HB1, hN.clear, .inl rfl⟩
theorem Bx.gr (h : Bx W w v0 t v) (hg : Gr w w') : Bx W w' v0 t v := ⟨h.tb.below hg.below h.tb.lt, h.rb.below hg.below h.rb.lt, h.nd.below hg.below, h.bl.trans (hg.below.mono h.bl.size), h.cl, h.dj⟩
theorem Bx.le (h : Bx W w v0 t v) : W.heap.size + 2 ≤ w.heap.size := h.rb.lt
theorem Bx.rt (h : Bx W w v0 t v) (hN : Nds w' v' t'.ns) (hb : Below w.heap.size w w') (hd : v' = v ∨ Fresh w.heap.size v') (hn : t'.ns.length = t.ns.length) : Bx W ((w'.setCell ⟨W.heap.size, 0, none⟩ (.int .i64 t'.root)).setCell ⟨W.heap.size, 1, none⟩ v') v0 t' v' := by
  have hle := h.le
  have ht := h.tb.below hb h.tb.lt
  have hr := h.rb.below hb h.rb.lt
  have hB := h.bl.trans (hb.mono h.bl.size)
  have hc : Clear W.heap.size (W.heap.size + 1) v' t'.ns := by
    rcases hd with rfl | hf
    · have hne : t'.ns ≠ [] → t.ns ≠ [] := fun h1 h2 => h1 (List.eq_nil_of_length_eq_zero (by rw [hn, h2]; rfl))
      exact ⟨fun h1 => h.cl.1 (hne h1), fun h1 => h.cl.2 (hne h1)⟩
    · exact (hf.mono hle).clear
  refine ⟨ht.store _ _, (hr.other (by show W.heap.size + 1 ≠ W.heap.size; omega)).other (by show W.heap.size + 1 ≠ W.heap.size; omega), (hN.other2 (q := ⟨W.heap.size, 0, none⟩) hc.1 _).other2 (q := ⟨W.heap.size, 1, none⟩) hc.1 _, (hB.setCell (p := ⟨W.heap.size, 0, none⟩) (Nat.le_refl _) _).setCell (p := ⟨W.heap.size, 1, none⟩) (Nat.le_refl _) _, hc, ?_⟩
  rcases hd with rfl | hf
  · exact h.dj
  · exact .inr (hf.mono (by omega))
/-- What is told, stored as the result. -/
structure Fx (W w : World) (v0 : Value) (t : T) (v : Value) : Prop where
  rb : Tb w (W.heap.size + 1) t.root v 24
  nd : Nds w v t.ns
  bl : Below W.heap.size W w
  dj : v = v0 ∨ Fresh W.heap.size v
theorem Bx.fin (h : Bx W w v0 t v) : Fx W ((w.setCell ⟨W.heap.size + 1, 0, none⟩ (.int .i64 t.root)).setCell ⟨W.heap.size + 1, 1, none⟩ v) v0 t v :=
  ⟨h.rb.store _ _, (h.nd.other2 (q := ⟨W.heap.size + 1, 0, none⟩) h.cl.2 _).other2 (q := ⟨W.heap.size + 1, 1, none⟩) h.cl.2 _, (h.bl.setCell (p := ⟨W.heap.size + 1, 0, none⟩) (by show W.heap.size ≤ W.heap.size + 1; omega) _).setCell (p := ⟨W.heap.size + 1, 1, none⟩) (by show W.heap.size ≤ W.heap.size + 1; omega) _, h.dj⟩
theorem Bx.finRt (h : Bx W w v0 t v) (hN : Nds w' v' t'.ns) (hb : Below w.heap.size w w') (hd : v' = v ∨ Fresh w.heap.size v') (hn : t'.ns.length = t.ns.length) : Fx W ((w'.setCell ⟨W.heap.size + 1, 0, none⟩ (.int .i64 t'.root)).setCell ⟨W.heap.size + 1, 1, none⟩ v') v0 t' v' := by
  have hle := h.le
  have hr := h.rb.below hb h.rb.lt
  have hB := h.bl.trans (hb.mono h.bl.size)
  have hc : Clear W.heap.size (W.heap.size + 1) v' t'.ns := by
    rcases hd with rfl | hf
    · have hne : t'.ns ≠ [] → t.ns ≠ [] := fun h1 h2 => h1 (List.eq_nil_of_length_eq_zero (by rw [hn, h2]; rfl))
      exact ⟨fun h1 => h.cl.1 (hne h1), fun h1 => h.cl.2 (hne h1)⟩
    · exact (hf.mono hle).clear
  refine ⟨hr.store _ _, (hN.other2 (q := ⟨W.heap.size + 1, 0, none⟩) hc.2 _).other2 (q := ⟨W.heap.size + 1, 1, none⟩) hc.2 _, (hB.setCell (p := ⟨W.heap.size + 1, 0, none⟩) (by show W.heap.size ≤ W.heap.size + 1; omega) _).setCell (p := ⟨W.heap.size + 1, 1, none⟩) (by show W.heap.size ≤ W.heap.size + 1; omega) _, ?_⟩
  rcases hd with rfl | hf
  · exact h.dj
  · exact .inr (hf.mono (by omega))
end
end Go.Proofs.Ytgjacmkedgbneaa
