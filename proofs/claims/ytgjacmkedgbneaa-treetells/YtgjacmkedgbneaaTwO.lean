/-
  Contract of tree's begin: a work on a copy.
-/
import Derived.Test.YtgjacmkedgbneaaTwN
import Derived.Laws.EntriesVeiled
namespace Go.Proofs.Ytgjacmkedgbneaa
open Go.RowKit Go.Sort Ky Wd Tn Tr

theorem clone_out {W : World} {v : Value} {l : List N} (hN : Nds W v l) (hp : 0 < l.length) (hl : l.length ≤ 1000) :
    Calls Try.prog 60 #[v] W fun e w' => ∃ (g cap : Nat) (rest : List Value), e = .returned (.slice (some ⟨g, 0, none⟩) l.length cap) ∧ (W.heap.size ≤ g ∧ l.length ≤ cap ∧ cap ≤ maxLen ∧ w'.heap[g]? = some (.cells (cellsN l ++ rest).toArray 57 (0, 0))) ∧ Below W.heap.size W w' := by
  refine (clone_at hN hp hl).mono ?_
  rintro e w' ⟨⟨v', rfl, hO⟩, hB⟩
  rcases hO.2 with ⟨-, h0⟩ | ⟨g, cap, cur, rfl, hg, hh, h1, h2, -, h4⟩
  · omega
  · refine ⟨g, cap, cur.toList.drop (l.length * 6), rfl, ⟨hg, h1, h2, ?_⟩, hB⟩
    rw [hh, ← h4, List.take_append_drop]

set_option maxHeartbeats 2000000 in
set_option maxRecDepth 100000 in
theorem begin_at {W : World} {v : Value} {t : T} (hN : Nds W v t.ns) (hp : 0 < t.ns.length) (hl : t.ns.length ≤ 1000) :
    Calls Try.prog 34 #[tv t v] W fun e w' => ∃ p : Wp, e = .returned (.pointer (some ⟨p.b, 0, none⟩)) ∧ p.n0 = W.heap.size ∧ Wk p w' t ∧ Below W.heap.size W w' := by
  have hmf : ∀ (fn : Fn) (first cap : Array Value) (w : World), (Instr.makeFunc fn first cap).run Try.prog w = .ok (.func fn first cap) w := fun _ _ _ _ => rfl
  have HB1 : Hid (Below W.heap.size W (W.alloc (.cells #[.int .i64 t.root, v] 58))) := Lib.hid ((Below.refl _ _).alloc (Nat.le_refl _) _)
  have HBD := Lib.hid HB1.out.drew
  have HCL := Lib.hid (clone_out (hN.below HBD.out) hp hl)
  have HU := Lib.hid hN.us
  obtain ⟨a, cap, rfl, hc1, hc2⟩ := hN.len
  have HS0 : Hid ((W.alloc (.cells #[.int .i64 t.root, .slice a t.ns.length cap] 58)).drew.cell? ⟨W.heap.size, 0, none⟩ = some (.int .i64 t.root) ∧ (W.alloc (.cells #[.int .i64 t.root, .slice a t.ns.length cap] 58)).drew.cell? ⟨W.heap.size, 1, none⟩ = some (.slice a t.ns.length cap)) := Lib.hid ⟨cell_atA _ _ _ 0, cell_atA _ _ _ 1⟩
  have hlt0 : W.heap.size < (W.alloc (.cells #[.int .i64 t.root, .slice a t.ns.length cap] 58)).drew.heap.size := by show _ < (W.alloc _).heap.size; simp
  have HLT := Lib.hid hlt0
  have HLN : Hid (0 < t.ns.length) := Lib.hid hp
  clear hN hlt0
  unfold tv
  go_enter Try.func34, Try.ntmps34
  go_wp2_with fail
  go_region_held3 (fun X => X.cell? ⟨W.heap.size, 0, none⟩ = some (.int .i64 t.root) ∧ X.cell? ⟨W.heap.size, 1, none⟩ = some (.slice a t.ns.length cap))
    (first
      | (with_reducible exact HS0.out)
      | (with_reducible exact ⟨(hb2.cell (p := ⟨W.heap.size, 0, none⟩) HLT.out).trans HS0.out.1, (hb2.cell (p := ⟨W.heap.size, 1, none⟩) HLT.out).trans HS0.out.2⟩)
      | go_keep)
    (first | (go_at_call 60; with_reducible refine HCL.out.mono ?_; rintro e' w2 ⟨g, cap2, rest, rfl, hO2, hb2⟩))
  obtain ⟨hg0, hcp1, hcp2, hgh⟩ := hO2
  have HWQ : Hid ((w2.alloc (.cells #[.int .i64 t.root, .slice (some ⟨g, 0, none⟩) t.ns.length cap2, .nilFunc, .nilFunc] 66)).heap[w2.heap.size]? = some (.cells #[.int .i64 t.root, .slice (some ⟨g, 0, none⟩) t.ns.length cap2, .nilFunc, .nilFunc] 66 (0, 0))) := Lib.hid (heap_alloc_new _ _)
  have hgl : g < w2.heap.size := (Array.getElem?_eq_some_iff.1 hgh).1
  have HGH : Hid ((w2.alloc (.cells #[.int .i64 t.root, .slice (some ⟨g, 0, none⟩) t.ns.length cap2, .nilFunc, .nilFunc] 66)).heap[g]? = some (.cells (cellsN t.ns ++ rest).toArray 57 (0, 0))) := Lib.hid ((Below.heap_alloc _ _ _ hgl).trans hgh)
  have HBB : Hid (Below W.heap.size W (w2.alloc (.cells #[.int .i64 t.root, .slice (some ⟨g, 0, none⟩) t.ns.length cap2, .nilFunc, .nilFunc] 66))) := Lib.hid (by
    have h1 := HBD.out.trans (hb2.mono HBD.out.size)
    exact h1.alloc h1.size _)
  have HNE : Hid (g ≠ w2.heap.size ∧ W.heap.size ≤ g ∧ W.heap.size ≤ w2.heap.size) := Lib.hid ⟨by omega, Nat.le_trans HBD.out.size hg0, (HBD.out.trans (hb2.mono HBD.out.size)).size⟩
  have HCP := Lib.hid (And.intro hcp1 hcp2)
  clear hg0 hcp1 hcp2 hgh hgl hb2 HCL HS0 HLT HBD HB1
  generalize w2.heap.size = q at HWQ HNE ⊢
  generalize w2.alloc (.cells #[.int .i64 t.root, .slice (some ⟨g, 0, none⟩) t.ns.length cap2, .nilFunc, .nilFunc] 66) = w3 at HWQ HGH HBB ⊢
  have d2 : w3.cell? ⟨q, 2, none⟩ = some .nilFunc := by unfold World.cell?; rw [HWQ.out]; rfl
  have d3 : w3.cell? ⟨q, 3, none⟩ = some .nilFunc := by unfold World.cell?; rw [HWQ.out]; rfl
  have e2 : w3.frozen? ⟨q, 2, none⟩ = false := by have := HWQ.out; simp [World.frozen?, this]
  have e3 : w3.frozen? ⟨q, 3, none⟩ = false := by have := HWQ.out; simp [World.frozen?, this]
  go_wp2_with fail
  go_region
  have HF : Hid (Wk ⟨W.heap.size, q, g, cap2, 57, rest⟩ ((w3.setCell ⟨q, 2, none⟩ (.func (.func 61) #[.pointer (some ⟨q, 0, none⟩)] #[])).setCell ⟨q, 3, none⟩ (.func (.func 62) #[.pointer (some ⟨q, 0, none⟩)] #[])).drew t) := Lib.hid (by
    refine Wk.drew ⟨HNE.out.2.2, HNE.out.2.1, fun e => HNE.out.1 e.symm, HCP.out.1, HCP.out.2, HU.out, ?_, ?_⟩
    · have := HWQ.out
      simp only [World.setCell, Array.getElem?_modify, if_true, this]
      rfl
    · refine (Below.heap_setCell _ _ _ _ HNE.out.1).trans ((Below.heap_setCell _ _ _ _ HNE.out.1).trans HGH.out))
  have HBF := Lib.hid (((HBB.out.setCell (p := ⟨q, 2, none⟩) HNE.out.2.2 (.func (.func 61) #[.pointer (some ⟨q, 0, none⟩)] #[])).setCell (p := ⟨q, 3, none⟩) HNE.out.2.2 (.func (.func 62) #[.pointer (some ⟨q, 0, none⟩)] #[])).drew)
  clear d2 d3 e2 e3 HWQ HGH HBB
  generalize ((w3.setCell ⟨q, 2, none⟩ (.func (.func 61) #[.pointer (some ⟨q, 0, none⟩)] #[])).setCell ⟨q, 3, none⟩ (.func (.func 62) #[.pointer (some ⟨q, 0, none⟩)] #[])).drew = w4 at HF HBF ⊢
  go_wp2_with fail
  go_ret
  exact ⟨_, rfl, rfl, HF.out, HBF.out⟩
end Go.Proofs.Ytgjacmkedgbneaa
