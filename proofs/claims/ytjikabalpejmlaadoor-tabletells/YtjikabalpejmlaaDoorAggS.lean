/-
  A field that is a slice of integers, of a struct that came in as an argument. Of no layer.
-/
import Derived.Test.YtjikabalpejmlaaDoorAgg
import Derived.Test.YtjikabalpejmlaaDoorSl
namespace Go.Proofs.YtjikabalpejmlaaDoor
open Go.RowKit Go.ChangeAt Go.ChangeShapes Go.WideShapes Go.Deep

theorem ints_field {H : Type} {enc : TypeId × Value → H} {P : Program} {W : World} {b0 : Nat} {held : Bool} {t e : TypeId} {k : IntKind} {c : Value} {m : Nat} {y : DataW H × List MemPlace}
    (ht : P.underlying t = some (.slice e)) (he : P.underlying e = some (.int k)) (hc : P.cellsOf e = 1) (hf : DataW.trod enc P W b0 (fun _ => true) held m t [c] = some y) : ∃ zs, Ints k W c zs := by
  rcases open_ints ht he hc hf with ⟨hcs, hx⟩ | ⟨a, len, cap, zs, hcs, _, hl, hm, hz, hx, hcell, hwz⟩
  · obtain rfl : c = .slice none 0 0 := by simpa using hcs
    exact ⟨[], none, 0, rfl, Nat.zero_le _, by simp, fun h => absurd rfl h⟩
  · obtain rfl : c = .slice (some a) len cap := by simpa using hcs
    simp only [if_true] at hz
    have hlen : (zs.take len).length = len := by rw [List.length_take]; omega
    refine ⟨zs.take len, some a, cap, by rw [hlen], by omega, fun z hz' => hwz z (List.mem_of_mem_take hz'), fun hne => ?_⟩
    have hp : 0 < len := by rw [← hlen]; exact List.length_pos_iff.2 hne
    obtain ⟨b, off, rfl, hc'⟩ := ints_at hcell (by omega)
    refine ⟨b, off, rfl, fun i hi => ?_⟩
    rw [hlen] at hi
    rw [hc' i (by omega)]
    simp [List.getD, hi]
end Go.Proofs.YtjikabalpejmlaaDoor
