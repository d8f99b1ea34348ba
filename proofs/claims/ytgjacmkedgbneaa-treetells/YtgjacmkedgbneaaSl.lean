/-
  A slice of integers as a list of numbers: what a walk reads of one, wherever it came from, and that it stays so while nothing old turns. No condition.
-/
import Derived.Test.YtgjacmkedgbneaaRows
import Derived.WalkKit
import Derived.ProofKit
import Derived.OpenShut
import Derived.Carry
namespace Go.Proofs.Ytgjacmkedgbneaa
open Go.ChangeShapes Go.WideShapes Go.ChangeAt Go.RowKit

/-- Nothing old turns, one behind the other. -/
theorem bOn {w a b : World} (h : Below w.heap.size w a) (k : Below a.heap.size a b) : Below w.heap.size w b := h.trans (k.mono h.size)

/-- The value v is a slice whose elements are the numbers zs. -/
def Ints (k : IntKind) (w : World) (v : Value) (zs : List Int) : Prop :=
  ∃ a cap, v = .slice a zs.length cap ∧ zs.length ≤ maxLen ∧ (∀ z ∈ zs, (Lit.int k z).wf = true) ∧
    (zs ≠ [] → ∃ b off, a = some ⟨b, off, none⟩ ∧ ∀ i, i < zs.length → w.cell? ⟨b, off + i, none⟩ = some (.int k (zs.getD i 0)))

theorem Ints.parts {k : IntKind} {w : World} {v : Value} {zs : List Int} (h : Ints k w v zs) :
    (zs = [] ∧ ∃ a cap, v = .slice a 0 cap) ∨ (0 < zs.length ∧ zs.length ≤ maxLen ∧ ∃ b off cap, v = .slice (some ⟨b, off, none⟩) zs.length cap ∧ b < w.heap.size ∧ ∀ i, i < zs.length → w.cell? ⟨b, off + i, none⟩ = some (.int k (zs.getD i 0))) := by
  obtain ⟨a, cap, rfl, hm, -, hc⟩ := h
  by_cases hz : zs = []
  · subst hz; exact .inl ⟨rfl, a, cap, rfl⟩
  · obtain ⟨b, off, rfl, hc2⟩ := hc hz
    have hp : 0 < zs.length := List.length_pos_iff.2 hz
    exact .inr ⟨hp, hm, b, off, cap, rfl, World.block_lt_of_cell? w ⟨b, off + 0, none⟩ (hc2 0 hp), hc2⟩

theorem Ints.wf {k : IntKind} {w : World} {v : Value} {zs : List Int} (h : Ints k w v zs) : ∀ z ∈ zs, (Lit.int k z).wf = true := by
  obtain ⟨a, cap, rfl, hm, h, hc⟩ := h
  exact h

theorem Ints.below {k : IntKind} {w w' : World} {v : Value} {zs : List Int} (h : Ints k w v zs) (hb : Below w.heap.size w w') : Ints k w' v zs := by
  obtain ⟨a, cap, rfl, hm, hw, hc⟩ := h
  refine ⟨a, cap, rfl, hm, hw, fun hz => ?_⟩
  obtain ⟨b, off, rfl, hc2⟩ := hc hz
  refine ⟨b, off, rfl, fun i hi => ?_⟩
  rw [hb.cell (p := ⟨b, off + i, none⟩) (World.block_lt_of_cell? w ⟨b, off + i, none⟩ (hc2 i hi))]
  exact hc2 i hi

/-- An argument that is a slice of integers. -/
theorem ints_arg {H : Type} {enc : TypeId × Value → H} {P : Program} {W : World} {base b0 : Nat} {r : Reach} {held : Bool} {t e : TypeId} {k : IntKind} {v : Value} {d : DataW H} {p : List MemPlace}
    (ht : P.underlying t = some (.slice e)) (he : P.underlying e = some (.int k)) (hc : P.cellsOf e = 1) (hok : Value.okWide P W r base t v)
    (h : DataW.Trod enc P W b0 (fun _ => true) held t v d p) : ∃ zs, Ints k W v zs := by
  obtain ⟨a0, len, cap, rfl⟩ := okWide_slice ht hok
  obtain ⟨fuel, hf⟩ := h
  rcases open_ints ht he hc hf with ⟨hcs, hx⟩ | ⟨a, len', cap', zs, hcs, _, hl, hm, hz, hx, hcell, hwz⟩
  · simp [Value.cells] at hcs
    obtain ⟨rfl, rfl, rfl⟩ := hcs
    exact ⟨[], none, 0, rfl, Nat.zero_le _, by simp, fun h => absurd rfl h⟩
  · simp [Value.cells] at hcs
    obtain ⟨rfl, rfl, rfl⟩ := hcs
    simp only [if_true] at hz
    have hlen : (zs.take len).length = len := by rw [List.length_take]; omega
    refine ⟨zs.take len, some a, cap, by rw [hlen], by omega, fun z hz' => hwz z (List.mem_of_mem_take hz'), fun hne => ?_⟩
    have hp : 0 < len := by rw [← hlen]; exact List.length_pos_iff.2 hne
    obtain ⟨b, off, rfl, hc'⟩ := ints_at hcell (by omega)
    refine ⟨b, off, rfl, fun i hi => ?_⟩
    rw [hlen] at hi
    rw [hc' i (by omega)]
    simp [List.getD, hi]

/-- A slice that the call itself made. -/
theorem ints_own {k : IntKind} {w : World} {base : Nat} {e : TypeId} {v : Value} {n : Nat} {zs : List Int} (h : w.ownsRow base e 1 v n (zs.map (Value.int k))) (hw : ∀ z ∈ zs, (Lit.int k z).wf = true) : Ints k w v zs := by
  obtain ⟨hl, hr⟩ := h
  simp only [List.length_map, Nat.mul_one] at hl
  rcases hr with ⟨rfl, rfl⟩ | ⟨g, cap, cur, rfl, _, hg, hn, hm, _, ht⟩
  · obtain rfl := List.eq_nil_of_length_eq_zero hl
    exact ⟨none, 0, rfl, Nat.zero_le _, by simp, fun h => absurd rfl h⟩
  · refine ⟨some ⟨g, 0, none⟩, cap, by rw [hl], by omega, hw, fun _ => ⟨g, 0, rfl, fun i hi => ?_⟩⟩
    have hc := World.ownsRow.cells (w := w) (base := base) (e := e) (size := 1) (v := .slice (some ⟨g, 0, none⟩) n cap) (n := n) (xs := zs.map (Value.int k)) ⟨by simpa using hl, .inr ⟨g, cap, cur, rfl, by assumption, hg, hn, hm, by assumption, ht⟩⟩ (g := g) rfl i (.int k (zs.getD i 0)) (by simp [List.getD, hi])
    rw [Nat.zero_add]
    by_cases h0 : i = 0
    · subst h0; simpa [Addr.add] using hc
    · simpa [Addr.add, h0] using hc

/-- A slice just laid. -/
theorem ints_new {k : IntKind} (w : World) (t : TypeId) (zs : List Int) (hm : zs.length ≤ maxLen) (hw : ∀ z ∈ zs, (Lit.int k z).wf = true) :
    Ints k (w.alloc (.cells (zs.map (Value.int k)).toArray t)) (.slice (some ⟨w.heap.size, 0, none⟩) zs.length zs.length) zs := by
  refine ⟨_, _, rfl, hm, hw, fun _ => ⟨_, _, rfl, fun i hi => ?_⟩⟩
  have hh : (w.alloc (.cells (zs.map (Value.int k)).toArray t)).heap[w.heap.size]? = some (.cells (zs.map (Value.int k)).toArray t) := heap_alloc_new w _
  simp only [World.cell?, hh]
  simp [List.getD, hi]

end Go.Proofs.Ytgjacmkedgbneaa
