/-
  Contract of tree's walk, of a tree that is as one.
-/
import Derived.Test.YtgjacmkedgbneaaTwK
import Derived.Test.YtgjacmkedgbneaaKyX
namespace Go.Proofs.Ytgjacmkedgbneaa
open Go.RowKit Go.Sort Wd Tn Ky Tr

theorem OwnK.drew {w : World} {B : Nat} {e : TypeId} {v : Value} {l : List K} (h : OwnK w B e v l) : OwnK w.drew B e v l := h
set_option maxHeartbeats 2000000 in
set_option maxRecDepth 100000 in
theorem walk_at {w0 : World} {pb : Nat} {v : Value} {t : T} (hT : Tp w0 pb v t) (b : B) : ∀ (u : Int) (w : World) (vs : Value) (l : List K), Sub t b u → (∀ x ∈ b.keys, Kin x) → OwnK w w0.heap.size 27 vs l → Below w0.heap.size w0 w → l.length + b.keys.length ≤ 1000 →
    Calls Try.prog 51 #[.pointer (some ⟨pb, 0, none⟩), .int .i64 b.rid, vs] w fun e w' => (∃ vs', e = .returned vs' ∧ OwnK w' w0.heap.size 27 vs' (l ++ b.keys)) ∧ Below w0.heap.size w0 w' := by
  induction b with
  | L =>
    intro u w vs l hS hk hO hB hl
    have HF := Lib.hid (And.intro hO hB)
    change Calls Try.prog 51 #[.pointer (some ⟨pb, 0, none⟩), .int .i64 (-1), vs] w fun e w' => (∃ vs', e = .returned vs' ∧ OwnK w' w0.heap.size 27 vs' (l ++ [])) ∧ Below w0.heap.size w0 w'
    rw [List.append_nil]
    clear hT hS hk hO hB hl
    go_enter Try.func51, Try.ntmps51
    go_wp2_with fail
    go_ret
    exact ⟨⟨vs, rfl, HF.out.1⟩, HF.out.2⟩
  | N i c v' k ih =>
    intro u w vs l hS hk hO hB hl
    obtain ⟨hi, hnd, hL, hR⟩ := hS
    obtain ⟨j, rfl, hj⟩ := has_nat hi
    obtain ⟨nb, off, cap, rfl, hc1, hc2, hn0⟩ := hT.node hj
    have HC : Hid (∀ X, Below w0.heap.size w0 X → X.cell? ⟨pb, 1, none⟩ = some (.slice (some ⟨nb, off, none⟩) t.ns.length cap) ∧ X.cell? ⟨nb, off + j * 6 + 3, none⟩ = some (.int .i64 (k false).rid) ∧ X.cell? ⟨nb, off + j * 6 + 4, none⟩ = some (.int .i64 (k true).rid)) := Lib.hid (fun X hX => by
      rw [hnd] at hn0
      have := hn0.below hX hn0.blk
      exact ⟨(hT.below hX).2.1, this.2.2.2.1, this.2.2.2.2.1⟩)
    have hkk : (∀ x ∈ (k false).keys, Kin x) ∧ Kin (v', (j : Int)) ∧ ∀ x ∈ (k true).keys, Kin x := by
      simp only [B.keys, List.mem_append, List.mem_cons] at hk
      exact ⟨fun x hx => hk x (.inl hx), hk _ (.inr (.inl rfl)), fun x hx => hk x (.inr (.inr hx))⟩
    have hll : l.length + (k false).keys.length + 1 + (k true).keys.length ≤ 1000 := by simp only [B.keys, List.length_append, List.length_cons] at hl; omega
    have HI1 := Lib.hid (ih false j w vs l hL hkk.1 hO hB (by omega))
    have HI2 := Lib.hid (fun X vs2 h1 h2 => ih true j X vs2 (l ++ (k false).keys ++ [(v', (j : Int))]) hR hkk.2.2 h1 h2 (by simp only [List.length_append, List.length_cons, List.length_nil]; omega))
    have HKY : Hid (∀ X, Below w0.heap.size w0 X → Calls Try.prog 65 #[.pointer (some ⟨pb, 0, none⟩), .int .i64 j] X fun e w' => e = .returned (.agg #[.int .u64 v', .int .i64 j]) ∧ Gr X w') := Lib.hid (fun X hX => by
      have := key_at (hT.below hX) hi
      rw [hnd] at this
      exact this)
    have HKIN := Lib.hid hkk.2.1
    have HE : Hid (l ++ (k false).keys ++ [(v', (j : Int))] ++ (k true).keys = l ++ (B.N j c v' k).keys) := Lib.hid (by simp [B.keys])
    rw [← HE.out]
    change Calls Try.prog 51 #[.pointer (some ⟨pb, 0, none⟩), .int .i64 j, vs] w _
    generalize (k false).rid = xl at HI1 HC
    generalize (k true).rid = xr at HI2 HC
    have hll1 : (l ++ (k false).keys).length ≤ 1000 := by rw [List.length_append]; omega
    generalize l ++ (k false).keys = l1 at HI1 HI2 hll1 ⊢
    have hne : ((j : Int) == -1) = false := by rw [beq_eq_false_iff_ne]; omega
    obtain ⟨c1, c3, c4⟩ := HC.out w hB
    clear hT hnd hL hR ih hk hi hn0 hO hB hl hkk hll HE
    go_enter Try.func51, Try.ntmps51
    go_wp2_with fail
    refine HI1.out.mono ?_
    rintro e' w1 ⟨⟨vs1, rfl, hO1⟩, hB1⟩
    clear HI1 c1 c3 c4
    obtain ⟨c1, c3, c4⟩ := HC.out w1 hB1
    have HO1 := Lib.hid hO1
    have HB1 := Lib.hid hB1
    have HBD : Hid (Below w0.heap.size w0 w1.drew) := Lib.hid hB1.drew
    have HKY1 := Lib.hid (HKY.out w1.drew HBD.out)
    have hx1 := (HC.out _ HBD.out)
    have HX : Hid (∀ w2 w3, Gr w1.drew w2 → Below w0.heap.size (w2.alloc (.cells #[.int .u64 v', .int .i64 j] 27)) w3 → Below w0.heap.size w0 w3) := Lib.hid (fun w2 w3 hg hb =>
      have h1 := HBD.out.trans (hg.below.mono HBD.out.size)
      (h1.alloc h1.size _).trans hb)
    clear hO1 hB1
    go_wp2_with fail
    go_region_held3 (fun X => X.cell? ⟨pb, 1, none⟩ = some (.slice (some ⟨nb, off, none⟩) t.ns.length cap) ∧ X.cell? ⟨nb, off + j * 6 + 4, none⟩ = some (.int .i64 xr))
      (first
        | exact ⟨hx1.1, hx1.2.2⟩
        | (with_reducible exact ⟨(HC.out _ (HBD.out.trans (hg2.below.mono HBD.out.size))).1, (HC.out _ (HBD.out.trans (hg2.below.mono HBD.out.size))).2.2⟩)
        | (with_reducible exact ⟨(HC.out _ (HX.out w2 w3 hg2 hb3)).1, (HC.out _ (HX.out w2 w3 hg2 hb3)).2.2⟩)
        | (with_reducible exact ⟨(HC.out _ hB4).1, (HC.out _ hB4).2.2⟩)
        | go_keep)
      (first
        | (go_at_call 51; with_reducible refine (HI2.out w3 v3 hO3 (HX.out w2 w3 hg2 hb3)).mono ?_; rintro e' w4 ⟨⟨vs4, rfl, hO4⟩, hB4⟩)
        | (go_at_call 65; with_reducible refine HKY1.out.mono ?_; rintro e' w2 ⟨rfl, hg2⟩)
        | (refine step_append_keys rfl (.tmp 30) (.tmp 34) 38 rfl w0.heap.size 27 Try.underlying38 info_key (by decide) vs1 (.slice (some ⟨w2.heap.size, 0, none⟩) 1 1) (by simp [Act.eval]) (by simp [Act.eval]) l1 [(v', (j : Int))] ((HO1.out.drew.below hg2.below).alloc _) (one_new w2 (v', (j : Int)) HKIN.out) (by simp only [List.length_cons, List.length_nil]; omega) (by have := (HBD.out.trans (hg2.below.mono HBD.out.size)).size; simp; omega) ?_; intro v3 w3 hO3 hb3))
    have HF := Lib.hid (And.intro hO4 hB4)
    clear hO4 hB4 hO3 hb3 hg2 hx1 c1 c3 c4
    go_wp2_with fail
    go_ret
    exact ⟨⟨vs4, rfl, HF.out.1⟩, HF.out.2⟩
end Go.Proofs.Ytgjacmkedgbneaa
