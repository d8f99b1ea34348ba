/-
  Contracts of turnspitref09's red, kid, side, put, paint, hang and turn.
-/
import Derived.Test.YtgjacmkedgbneaaTyA
namespace Go.Proofs.Ytgjacmkedgbneaa
open Go.RowKit Go.Sort Ky Wd Tn Tr

/-- A tree by value, boxed: what a walk reads of it. -/
theorem boxed {W : World} {v : Value} {t : T} (hN : Nds W v t.ns) (ty : TypeId) {k : Nat} (hk : k < t.ns.length) :
    ∃ nb off cap, v = .slice (some ⟨nb, off, none⟩) t.ns.length cap ∧ t.ns.length ≤ cap ∧ cap ≤ maxLen ∧ ∀ X, Gr (W.alloc (.cells #[.int .i64 t.root, v] ty)) X → X.cell? ⟨W.heap.size, 0, none⟩ = some (.int .i64 t.root) ∧ X.cell? ⟨W.heap.size, 1, none⟩ = some v ∧ Nc X nb (off + k * 6) (t.nd k) := by
  have hT := Tp.copy hN (Below.refl W.heap.size W) ty
  obtain ⟨nb, off, cap, rfl, h1, h2, hn⟩ := hT.node hk
  refine ⟨nb, off, cap, rfl, h1, h2, fun X hX => ⟨(hT.gr hX).1, (hT.gr hX).2.1, hn.below hX.below hn.blk⟩⟩

theorem rred_at {W : World} {v : Value} {t : T} (hN : Nds W v t.ns) {x : Int} (hx : t.ok x) :
    Calls Try.prog 47 #[.agg #[.int .i64 t.root, v], .int .i64 x] W fun e w' => e = .returned (.bool (t.redB x)) ∧ Gr W w' := by
  rcases hx with rfl | hx
  · obtain ⟨a, cap, rfl, -, -⟩ := hN.len
    clear hN
    go_enter Try.func47, Try.ntmps47
    go_wp2
    go_ret
    exact ⟨rfl, Gr.alloc _ _⟩
  · obtain ⟨k, rfl, hk⟩ := has_nat hx
    obtain ⟨nb, off, cap, rfl, h1, h2, hc⟩ := boxed hN 24 hk
    obtain ⟨c0, c1, hn⟩ := hc _ (Gr.refl _)
    have r1 := hn.2.1
    have HE : Hid (t.redB k = (t.nd k).red) := Lib.hid (by unfold T.redB; rw [decide_eq_true (by omega)]; rfl)
    rw [HE.out]
    generalize (t.nd k).red = r at r1 ⊢
    clear hN hc hn HE
    go_enter Try.func47, Try.ntmps47
    go_wp2
    go_ret
    exact ⟨rfl, Gr.alloc _ _⟩

theorem rkid_at {W : World} {v : Value} {t : T} (hN : Nds W v t.ns) {x : Int} (hx : t.has x) (s : Bool) :
    Calls Try.prog 36 #[.agg #[.int .i64 t.root, v], .int .i64 x, .int .i64 (sI s)] W fun e w' => e = .returned (.int .i64 (t.kid x s)) ∧ Gr W w' := by
  obtain ⟨k, rfl, hk⟩ := has_nat hx
  obtain ⟨nb, off, cap, rfl, h1, h2, hc⟩ := boxed hN 24 hk
  obtain ⟨c0, c1, hn⟩ := hc _ (Gr.refl _)
  cases s with
  | false =>
    show Calls Try.prog 36 #[_, .int .i64 k, .int .i64 0] W fun e w' => e = .returned (.int .i64 (t.nd k).l) ∧ Gr W w'
    have r1 := hn.2.2.2.1
    generalize (t.nd k).l = r at r1 ⊢
    clear hN hc hn
    go_enter Try.func36, Try.ntmps36
    go_wp2
    go_ret
    exact ⟨rfl, Gr.alloc _ _⟩
  | true =>
    show Calls Try.prog 36 #[_, .int .i64 k, .int .i64 1] W fun e w' => e = .returned (.int .i64 (t.nd k).r) ∧ Gr W w'
    have r1 := hn.2.2.2.2.1
    generalize (t.nd k).r = r at r1 ⊢
    clear hN hc hn
    go_enter Try.func36, Try.ntmps36
    go_wp2
    go_ret
    exact ⟨rfl, Gr.alloc _ _⟩

theorem rside_at {W : World} {v : Value} {t : T} (hN : Nds W v t.ns) {x : Int} (hx : t.has x) (hu : t.ok (t.up x)) :
    Calls Try.prog 43 #[.agg #[.int .i64 t.root, v], .int .i64 x] W fun e w' => e = .returned (.int .i64 (sI (t.side x))) ∧ Gr W w' := by
  obtain ⟨k, rfl, hk⟩ := has_nat hx
  obtain ⟨nb, off, cap, rfl, h1, h2, hc⟩ := boxed hN 24 hk
  obtain ⟨c0, c1, hn⟩ := hc _ (Gr.refl _)
  have r1 := hn.2.2.2.2.2
  change (W.alloc _).cell? _ = some (.int .i64 (t.up k)) at r1
  have HS : Hid (t.side k = (decide (t.up k ≠ -1) && decide (t.kid (t.up k) true = k))) := Lib.hid rfl
  rcases hu with hu | hu
  · have HV : Hid (sI (t.side k) = 0) := Lib.hid (by rw [HS.out, hu]; rfl)
    rw [hu] at r1
    rw [HV.out]
    clear hN hc hn HS
    go_enter Try.func43, Try.ntmps43
    go_wp2
    go_ret
    exact ⟨rfl, Gr.alloc _ _⟩
  · obtain ⟨p, hp0, hp⟩ := has_nat hu
    obtain ⟨nb', off', cap', he, -, -, hc'⟩ := boxed hN 24 hp
    simp only [Value.slice.injEq, Option.some.injEq, Addr.mk.injEq] at he
    obtain ⟨⟨rfl, rfl, -⟩, -, rfl⟩ := he
    obtain ⟨-, -, hn'⟩ := hc' _ (Gr.refl _)
    have r2 := hn'.2.2.2.2.1
    change (W.alloc _).cell? _ = some (.int .i64 (t.kid p true)) at r2
    rw [hp0] at r1 HS
    by_cases he : t.kid p true = k
    · have HV : Hid (sI (t.side k) = 1) := Lib.hid (by rw [HS.out, decide_eq_true he, decide_eq_true (by omega)]; rfl)
      rw [HV.out]
      rw [he] at r2
      have hkk : ((k : Int) == (k : Int)) = true := by simp
      clear hN hc hn HS hc' hn' he
      go_enter Try.func43, Try.ntmps43
      go_wp2
      go_ret
      exact ⟨rfl, Gr.alloc _ _⟩
    · have HV : Hid (sI (t.side k) = 0) := Lib.hid (by rw [HS.out, decide_eq_false he, Bool.and_false]; rfl)
      rw [HV.out]
      have hkk : (t.kid p true == (k : Int)) = false := by rw [beq_eq_false_iff_ne]; exact he
      generalize t.kid p true = y at r2 hkk
      clear hN hc hn HS hc' hn' he
      go_enter Try.func43, Try.ntmps43
      go_wp2
      go_ret
      exact ⟨rfl, Gr.alloc _ _⟩

/-- A node by value. -/
def nv (n : N) : Value := .agg #[.bool n.inn, .bool n.red, .int .u64 n.v, .int .i64 n.l, .int .i64 n.r, .int .i64 n.u]
theorem OwnN.at {w : World} {B : Nat} {e : TypeId} {v : Value} {l : List N} (h : OwnN w B e v l) (hp : 0 < l.length) : ∃ g cap rest, v = .slice (some ⟨g, 0, none⟩) l.length cap ∧ B ≤ g ∧ l.length ≤ cap ∧ cap ≤ maxLen ∧ w.heap[g]? = some (.cells (cellsN l ++ rest).toArray e (0, 0)) := by
  rcases h.2 with ⟨-, h0⟩ | ⟨g, cap, cur, rfl, hg, hh, h1, h2, -, h4⟩
  · omega
  · refine ⟨g, cap, cur.toList.drop (l.length * 6), rfl, hg, h1, h2, ?_⟩
    rw [hh, ← h4, List.take_append_drop]

/-- A block of nodes, with room behind them. -/
def Rw (w : World) (g : Nat) (rest : List Value) (l : List N) : Prop := w.heap[g]? = some (.cells (cellsN l ++ rest).toArray 57 (0, 0))
section
variable {w : World} {g : Nat} {rest : List Value} {l : List N}
theorem Rw.lt (h : Rw w g rest l) : g < w.heap.size := (Array.getElem?_eq_some_iff.1 h).1
theorem Rw.nc (h : Rw w g rest l) {k : Nat} (hk : k < l.length) : Nc w g (k * 6) (l.getD k nE) := by
  have h' : w.heap[g]? = _ := h
  have hl := cellsN_length l
  have each : ∀ j (hj : j < 6), w.cell? ⟨g, k * 6 + j, none⟩ = (cellsN1 (l.getD k nE))[j]? := by
    intro j hj
    rw [← cellsN_at l k hk j hj]
    simp only [World.cell?, h']
    rw [← List.getElem?_append_left (l₂ := rest) (by omega)]
    simp
  exact ⟨each 0 (by omega), each 1 (by omega), each 2 (by omega), each 3 (by omega), each 4 (by omega), each 5 (by omega)⟩
theorem Rw.frozen (h : Rw w g rest l) (o : Nat) : w.frozen? ⟨g, o, none⟩ = false := by
  have h' : w.heap[g]? = _ := h
  simp [World.frozen?, h']
theorem Rw.set1 (h : Rw w g rest l) {k : Nat} (hk : k < l.length) (n : N) (j : Nat) (hj : j < 6) (v : Value) (hv : (cellsN1 (l.getD k nE)).set j v = cellsN1 n) : Rw (w.setCell ⟨g, k * 6 + j, none⟩ v) g rest (l.set k n) := by
  have h' : w.heap[g]? = _ := h
  have hl := cellsN_length l
  unfold Rw
  simp only [World.setCell, Array.getElem?_modify, if_true, h']
  rw [← cellsN_set l k hk n j hj v hv, ← List.set_append_left _ _ (by omega)]
  simp
theorem Rw.node (h : Rw w g rest l) {k : Nat} (hk : k < l.length) (n : N) : Rw (setNode w g (k * 6) n) g rest (l.set k n) := by
  obtain ⟨x, hx⟩ : ∃ x, l.getD k nE = x := ⟨_, rfl⟩
  have h0 := h.set1 hk { x with inn := n.inn } 0 (by omega) (.bool n.inn) (by rw [hx]; rfl)
  have l0 : ∀ y, k < (l.set k y).length := fun y => by rw [List.length_set]; exact hk
  have h1 := h0.set1 (l0 _) { x with inn := n.inn, red := n.red } 1 (by omega) (.bool n.red) (by rw [getD_set_same _ _ hk]; rfl)
  rw [List.set_set] at h1
  have h2 := h1.set1 (l0 _) { x with inn := n.inn, red := n.red, v := n.v } 2 (by omega) (.int .u64 n.v) (by rw [getD_set_same _ _ hk]; rfl)
  rw [List.set_set] at h2
  have h3 := h2.set1 (l0 _) { x with inn := n.inn, red := n.red, v := n.v, l := n.l } 3 (by omega) (.int .i64 n.l) (by rw [getD_set_same _ _ hk]; rfl)
  rw [List.set_set] at h3
  have h4 := h3.set1 (l0 _) { x with inn := n.inn, red := n.red, v := n.v, l := n.l, r := n.r } 4 (by omega) (.int .i64 n.r) (by rw [getD_set_same _ _ hk]; rfl)
  rw [List.set_set] at h4
  have h5 := h4.set1 (l0 _) n 5 (by omega) (.int .i64 n.u) (by rw [getD_set_same _ _ hk]; rfl)
  rw [List.set_set] at h5
  exact h5
theorem Rw.other (h : Rw w g rest l) {a : Addr} {v : Value} (hne : g ≠ a.block) : Rw (w.setCell a v) g rest l := (Below.heap_setCell _ _ _ _ hne).trans h
theorem Rw.nds (h : Rw w g rest l) {cap : Nat} (h1 : l.length ≤ cap) (h2 : cap ≤ maxLen) (hU : ∀ x ∈ l, U x.v) : Nds w (.slice (some ⟨g, 0, none⟩) l.length cap) l :=
  ⟨_, _, rfl, ⟨h1, h2⟩, hU, fun _ => ⟨g, 0, rfl, fun i hi => by have := h.nc hi; rw [Nat.zero_add]; exact this⟩⟩
end

/-- Six cells of another block. -/
theorem Tb.node {w : World} {q : Nat} {x : Int} {v : Value} {ty : TypeId} (h : Tb w q x v ty) {g : Nat} (hne : q ≠ g) (o : Nat) (n : N) : Tb (setNode w g o n) q x v ty := by
  have hn : ∀ (w : World) (o : Nat) (y : Value), (w.setCell ⟨g, o, none⟩ y).heap[q]? = w.heap[q]? := fun w o y => Below.heap_setCell _ _ _ _ hne
  unfold Tb setNode
  rw [hn, hn, hn, hn, hn, hn]
  exact h
theorem below_node {B : Nat} {w w' : World} (h : Below B w w') {g : Nat} (hg : B ≤ g) (o : Nat) (n : N) : Below B w (setNode w' g o n) :=
  (((((h.setCell (p := ⟨g, o, none⟩) hg _).setCell (p := ⟨g, o + 1, none⟩) hg _).setCell (p := ⟨g, o + 2, none⟩) hg _).setCell (p := ⟨g, o + 3, none⟩) hg _).setCell (p := ⟨g, o + 4, none⟩) hg _).setCell (p := ⟨g, o + 5, none⟩) hg _
theorem U_set {l : List N} (h : ∀ x ∈ l, U x.v) {k : Nat} {n : N} (hn : U n.v) : ∀ x ∈ l.set k n, U x.v := by
  intro x hx
  rcases List.mem_or_eq_of_mem_set hx with h1 | rfl
  · exact h x h1
  · exact hn

/-- A slice that lies in no block below. -/
def Fresh (B : Nat) (v : Value) : Prop := ∀ a n c, v = .slice (some a) n c → B ≤ a.block
theorem Fresh.mono {B B' : Nat} {v : Value} (h : Fresh B v) (hB : B' ≤ B) : Fresh B' v := fun a n c e => Nat.le_trans hB (h a n c e)
theorem Nds.other {w : World} {v : Value} {l : List N} (h : Nds w v l) {B : Nat} (hf : Fresh B v) {q : Addr} (hq : q.block < B) (x : Value) : Nds (w.setCell q x) v l := by
  obtain ⟨a, cap, rfl, h1, h2, h3⟩ := h
  refine ⟨a, cap, rfl, h1, h2, fun hne => ?_⟩
  obtain ⟨b, off, rfl, h4⟩ := h3 hne
  have hb : B ≤ b := hf _ _ _ rfl
  refine ⟨b, off, rfl, fun i hi => ?_⟩
  have e : ∀ o, (w.setCell q x).cell? ⟨b, o, none⟩ = w.cell? ⟨b, o, none⟩ := fun o => by
    simp only [World.cell?, Below.heap_setCell _ _ _ _ (show b ≠ q.block by omega)]
  obtain ⟨m0, m1, m2, m3, m4, m5⟩ := h4 i hi
  exact ⟨(e _).trans m0, (e _).trans m1, (e _).trans m2, (e _).trans m3, (e _).trans m4, (e _).trans m5⟩

set_option maxHeartbeats 2000000 in
set_option maxRecDepth 100000 in
theorem rput_at {W : World} {v : Value} {t : T} (hN : Nds W v t.ns) (hl : t.ns.length ≤ 1000) {x : Int} (hx : t.has x) (n : N) (hU : U n.v) :
    Calls Try.prog 40 #[.agg #[.int .i64 t.root, v], .int .i64 x, nv n] W fun e w' => ∃ a cap, e = .returned (.agg #[.int .i64 t.root, .slice a t.ns.length cap]) ∧ Nds w' (.slice a t.ns.length cap) (t.put x n).ns ∧ Below W.heap.size W w' ∧ Fresh W.heap.size (.slice a t.ns.length cap) := by
  obtain ⟨k, rfl, hk⟩ := has_nat hx
  have HN := Lib.hid hN
  have HUS : Hid (∀ x ∈ t.ns, U x.v) := Lib.hid hN.us
  obtain ⟨a1, cap0, rfl, hc1, hc2⟩ := hN.len
  have hne : a1 ≠ none := by
    rintro rfl
    rcases hN.parts with ⟨h0, -⟩ | ⟨-, b, off, c, e, -⟩
    · rw [h0] at hk; simp at hk
    · cases e
  obtain ⟨A, rfl⟩ := Option.ne_none_iff_exists'.1 hne
  have HX := Lib.hid (((Below.refl W.heap.size W).alloc (Nat.le_refl _) (.cells #[.int .i64 t.root, .slice (some A) t.ns.length cap0] 24)))
  have HX2 := Lib.hid (HX.out.alloc HX.out.size (.cells #[.bool n.inn, .bool n.red, .int .u64 n.v, .int .i64 n.l, .int .i64 n.r, .int .i64 n.u] 57))
  have HX3 := Lib.hid (HX2.out.alloc HX2.out.size (.cells #[.int .i64 0, .slice none 0 0] 24))
  unfold nv
  clear hN hne
  go_enter Try.func40, Try.ntmps40
  have HS3 : Hid ((((W.alloc (.cells #[.int .i64 t.root, .slice (some A) t.ns.length cap0] 24)).alloc (.cells #[.bool n.inn, .bool n.red, .int .u64 n.v, .int .i64 n.l, .int .i64 n.r, .int .i64 n.u] 57)).alloc (.cells #[.int .i64 0, .slice none 0 0] 24)).heap.size = W.heap.size + 3) := Lib.hid (by simp)
  have s1 : (W.alloc (.cells #[.int .i64 t.root, .slice (some A) t.ns.length cap0] 24)).heap.size = W.heap.size + 1 := by simp
  have s2 : ((W.alloc (.cells #[.int .i64 t.root, .slice (some A) t.ns.length cap0] 24)).alloc (.cells #[.bool n.inn, .bool n.red, .int .u64 n.v, .int .i64 n.l, .int .i64 n.r, .int .i64 n.u] 57)).heap.size = W.heap.size + 1 + 1 := by simp
  have HT := Lib.hid ((Tb.new W t.root (.slice (some A) t.ns.length cap0) 24).below ((Gr.alloc _ (.cells #[.bool n.inn, .bool n.red, .int .u64 n.v, .int .i64 n.l, .int .i64 n.r, .int .i64 n.u] 57)).trans (Gr.alloc _ (.cells #[.int .i64 0, .slice none 0 0] 24))).below (Tb.new W t.root (.slice (some A) t.ns.length cap0) 24).lt)
  have HNB : Hid (Nb (((W.alloc (.cells #[.int .i64 t.root, .slice (some A) t.ns.length cap0] 24)).alloc (.cells #[.bool n.inn, .bool n.red, .int .u64 n.v, .int .i64 n.l, .int .i64 n.r, .int .i64 n.u] 57)).alloc (.cells #[.int .i64 0, .slice none 0 0] 24)) (W.heap.size + 1) [n]) := Lib.hid (by
    have h1 : Nb ((W.alloc (.cells #[.int .i64 t.root, .slice (some A) t.ns.length cap0] 24)).alloc (.cells #[.bool n.inn, .bool n.red, .int .u64 n.v, .int .i64 n.l, .int .i64 n.r, .int .i64 n.u] 57)) (W.heap.size + 1) [n] := by
      have := heap_alloc_new (W.alloc (.cells #[.int .i64 t.root, .slice (some A) t.ns.length cap0] 24)) (.cells #[.bool n.inn, .bool n.red, .int .u64 n.v, .int .i64 n.l, .int .i64 n.r, .int .i64 n.u] 57)
      rw [s1] at this
      unfold Nb
      rw [this]
      rfl
    exact h1.gr (Gr.alloc _ _))
  have HR := Lib.hid (Tb.new ((W.alloc (.cells #[.int .i64 t.root, .slice (some A) t.ns.length cap0] 24)).alloc (.cells #[.bool n.inn, .bool n.red, .int .u64 n.v, .int .i64 n.l, .int .i64 n.r, .int .i64 n.u] 57)) 0 (.slice none 0 0) 24)
  rw [s2] at HR
  clear s1 s2 HX HX2
  go_upto_region 1 with fail
  generalize ((W.alloc (.cells #[.int .i64 t.root, .slice (some A) t.ns.length cap0] 24)).alloc (.cells #[.bool n.inn, .bool n.red, .int .u64 n.v, .int .i64 n.l, .int .i64 n.r, .int .i64 n.u] 57)).alloc (.cells #[.int .i64 0, .slice none 0 0] 24) = w1 at HX3 HS3 HT HNB HR ⊢
  obtain ⟨x0, x1, -, -⟩ := HT.out.all
  have HW1 : Hid (W.heap.size + 3 ≤ w1.heap.size) := Lib.hid (by have := HS3.out; omega)
  go_upto_region 2 with (refine wpList_append_nodes rfl (.const (.slice none 0 0)) (.tmp 9) 22 rfl (W.heap.size + 3) 57 Try.underlying22 info_node (by decide) (.slice none 0 0) (.slice (some A) t.ns.length cap0) (by simp [Act.eval]) (by simp [Act.eval]) [] t.ns (OwnN.nil _ _ _) (HN.out.below HX3.out) (by simp only [List.length_nil]; omega) HW1.out ?_; intro v' w2 hO2 hb2)
  rw [List.nil_append] at hO2
  obtain ⟨g, cap, rest, rfl, hg, hcp1, hcp2, hgh⟩ := hO2.at (by omega)
  have HT2 := Lib.hid (HT.out.below hb2 (by omega))
  have HNB2 : Hid (Nb w2 (W.heap.size + 1) [n]) := Lib.hid ((hb2.block _ (by omega)).trans HNB.out)
  have HR2 := Lib.hid (HR.out.below hb2 (by omega))
  have HB2 := Lib.hid (HX3.out.trans (hb2.mono (by omega)))
  have HG := Lib.hid (And.intro hg (And.intro hcp1 (And.intro hcp2 hgh)))
  clear hb2 hO2 hg hgh HT HNB HR HX3 HS3 HW1 x0 x1
  obtain ⟨x0, x1, -, -⟩ := HT2.out.all
  obtain ⟨n0, n1, n2, n3, n4, n5⟩ := HNB2.out.nc (k := 0) (by simp)
  rw [Nat.zero_mul] at n0 n1 n2 n3 n4 n5
  change w2.cell? _ = some (.bool n.inn) at n0
  change w2.cell? _ = some (.bool n.red) at n1
  change w2.cell? _ = some (.int .u64 n.v) at n2
  change w2.cell? _ = some (.int .i64 n.l) at n3
  change w2.cell? _ = some (.int .i64 n.r) at n4
  change w2.cell? _ = some (.int .i64 n.u) at n5
  have HRW : Hid (Rw w2 g rest t.ns) := Lib.hid HG.out.2.2.2
  obtain ⟨m0, m1, m2, m3, m4, m5⟩ := HRW.out.nc hk
  have fr := fun o => HRW.out.frozen o
  have HRF := Lib.hid (HRW.out.node hk n)
  generalize t.ns.getD k nE = nk at m0 m1 m2 m3 m4 m5
  unfold maxLen at hcp2
  go_upto_region 3 with fail
  change Code.wp Try.prog _ _ _ (setNode w2 g (k * 6) n)
  have HT3 := Lib.hid (HT2.out.node (g := g) (by have := HG.out.1; omega) (k * 6) n)
  have HR3 := Lib.hid (HR2.out.node (g := g) (by have := HG.out.1; omega) (k * 6) n)
  have HB3 := Lib.hid (below_node HB2.out (g := g) (by have := HG.out.1; omega) (k * 6) n)
  clear m0 m1 m2 m3 m4 m5 n0 n1 n2 n3 n4 n5 x0 x1 fr HRW HT2 HR2 HB2 HNB2
  generalize setNode w2 g (k * 6) n = w3 at HRF HT3 HR3 HB3 ⊢
  obtain ⟨x0, x1, -, -⟩ := HT3.out.all
  obtain ⟨y0, y1, y2, y3⟩ := HR3.out.all
  have HS6 := Lib.hid (HR3.out.store t.root (.slice (some ⟨g, 0, none⟩) t.ns.length cap)).all
  have HB6 := Lib.hid ((HB3.out.setCell (p := ⟨W.heap.size + 1 + 1, 0, none⟩) (by show W.heap.size ≤ W.heap.size + 1 + 1; omega) (.int .i64 t.root)).setCell (p := ⟨W.heap.size + 1 + 1, 1, none⟩) (by show W.heap.size ≤ W.heap.size + 1 + 1; omega) (.slice (some ⟨g, 0, none⟩) t.ns.length cap))
  have HN6 := Lib.hid (((HRF.out.other (a := ⟨W.heap.size + 1 + 1, 0, none⟩) (v := .int .i64 t.root) (by have := HG.out.1; show g ≠ W.heap.size + 1 + 1; omega)).other (a := ⟨W.heap.size + 1 + 1, 1, none⟩) (v := .slice (some ⟨g, 0, none⟩) t.ns.length cap) (by have := HG.out.1; show g ≠ W.heap.size + 1 + 1; omega)).nds (cap := cap) (by rw [List.length_set]; exact hcp1) HG.out.2.2.1 (U_set HUS.out hU))
  rw [List.length_set] at HN6
  clear HRF HT3 HR3 HB3
  go_wp2
  obtain ⟨z0, z1, -, -⟩ := HS6.out
  exact bodyPost_ret (v := .agg #[.int .i64 t.root, .slice (some ⟨g, 0, none⟩) t.ns.length cap]) (by simp [results, Try.results40, go_sem, z0, z1]) rfl ⟨_, _, rfl, HN6.out, HB6.out, fun a n c e => by
    simp only [Value.slice.injEq, Option.some.injEq] at e
    have := HG.out.1
    rw [← e.1]
    show W.heap.size ≤ g
    omega⟩
end Go.Proofs.Ytgjacmkedgbneaa
