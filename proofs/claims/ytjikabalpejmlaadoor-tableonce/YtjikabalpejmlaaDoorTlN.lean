/-
  Tables and handles in boxes of their own, as a list, one behind the other; the laws' awake.
-/
import Derived.Test.YtjikabalpejmlaaDoorTlL
import Derived.Test.YtjikabalpejmlaaDoorPkR
namespace Go.Proofs.YtjikabalpejmlaaDoor
open Go.RowKit Go.Deep Pk Lf
open Mk (V allM cpus fstI anyB)

def Bv (w : World) (n : Nat) (t : Tl.T) : Prop := ∃ a0 l0 p0 a1 l1 p1, Bt w n (.slice a0 l0 p0) (.slice a1 l1 p1) ∧ Tv w (.agg #[.slice a0 l0 p0, .slice a1 l1 p1]) t
inductive It where
  | t (n : Nat) (x : Tl.T)
  | h (n : Nat) (x : Tl.Hd)
def It.ok (w : World) : It → Prop
  | .t n x => Bv w n x
  | .h n x => Bh w n x
theorem Bv.below {w w' : World} {n : Nat} {t : Tl.T} (h : Bv w n t) (hb : Below w.heap.size w w') : Bv w' n t := by
  obtain ⟨a0, l0, p0, a1, l1, p1, h1, h2⟩ := h
  exact ⟨a0, l0, p0, a1, l1, p1, h1.below hb, h2.below hb⟩
theorem It.ok.below {w w' : World} {i : It} (h : i.ok w) (hb : Below w.heap.size w w') : i.ok w' := by
  cases i with
  | t n x => exact Bv.below h hb
  | h n x => exact Bh.below h hb
structure Bag (W w : World) (l : List It) : Prop where
  bel : Below W.heap.size W w
  all : ∀ i ∈ l, i.ok w
theorem Bag.nil (W : World) : Bag W W [] := ⟨Below.refl _ _, by simp⟩
theorem Bag.up {W w w' : World} {l : List It} (h : Bag W w l) (hb : Below w.heap.size w w') : Bag W w' l := ⟨bOn h.bel hb, fun i hi => (h.all i hi).below hb⟩
theorem Bag.tb {W w : World} {l : List It} (h : Bag W w l) {a0 : Option Addr} {l0 p0 : Nat} {a1 : Option Addr} {l1 p1 : Nat} {t : Tl.T} (ht : Tv w (.agg #[.slice a0 l0 p0, .slice a1 l1 p1]) t) :
    Bag W (w.alloc (.cells #[.slice a0 l0 p0, .slice a1 l1 p1] 25)) (.t w.heap.size t :: l) := by
  have hb := (Below.refl w.heap.size w).alloc (Nat.le_refl _) (.cells #[.slice a0 l0 p0, .slice a1 l1 p1] 25)
  refine ⟨(h.up hb).bel, fun i hi => ?_⟩
  rcases List.mem_cons.1 hi with rfl | hi
  · exact ⟨_, _, _, _, _, _, Bt.new w _ _, ht.below hb⟩
  · exact (h.up hb).all i hi
theorem Bag.hd {W w : World} {l : List It} (h : Bag W w l) (x : Tl.Hd) : Bag W (w.alloc (.cells #[.int .i64 x.slot, .int .i64 x.gen] 27)) (.h w.heap.size x :: l) := by
  have hb := (Below.refl w.heap.size w).alloc (Nat.le_refl _) (.cells #[.int .i64 x.slot, .int .i64 x.gen] 27)
  refine ⟨(h.up hb).bel, fun i hi => ?_⟩
  rcases List.mem_cons.1 hi with rfl | hi
  · exact Bh.new w x
  · exact (h.up hb).all i hi
/-- A table and a handle, told by one call, in two boxes. -/
theorem Bag.th {W w : World} {l : List It} (h : Bag W w l) {a0 : Option Addr} {l0 p0 : Nat} {a1 : Option Addr} {l1 p1 : Nat} {t : Tl.T} (ht : Tv w (.agg #[.slice a0 l0 p0, .slice a1 l1 p1]) t) (x : Tl.Hd) :
    Bag W ((w.alloc (.cells #[.slice a0 l0 p0, .slice a1 l1 p1] 25)).alloc (.cells #[.int .i64 x.slot, .int .i64 x.gen] 27)) (.h (w.heap.size + 1) x :: .t w.heap.size t :: l) := by
  have := (h.tb ht).hd x
  rwa [sz_alloc] at this
theorem Bag.getT {W w : World} {l : List It} (h : Bag W w l) {n : Nat} {t : Tl.T} (hi : It.t n t ∈ l) : Bv w n t := h.all _ hi
theorem Bag.getH {W w : World} {l : List It} (h : Bag W w l) {n : Nat} {x : Tl.Hd} (hi : It.h n x ∈ l) : Bh w n x := h.all _ hi

/-! ### awake's tables -/
def aN : Tl.T := ⟨[0, 0], [Tl.k0, Tl.k0]⟩
def aA : Tl.T := ⟨[67108881, 0], [⟨0, 12, 0⟩, Tl.k0]⟩
def aB : Tl.T := ⟨[67108881, 67108865], [⟨0, 12, 0⟩, ⟨5, 1, 0⟩]⟩
def aC : Tl.T := ⟨[67108864, 67108865], [Tl.k0, ⟨5, 1, 0⟩]⟩
def aD : Tl.T := ⟨[134217729, 67108865], [⟨5, 15, 0⟩, ⟨5, 1, 0⟩]⟩
def aS : Tl.T := ⟨[134218754, 67108865], [⟨5, 15, 0⟩, ⟨5, 1, 0⟩]⟩
theorem aw0 : newT 2 = aN ∧ newE 2 = 0 := by decide +kernel
theorem aw1 : Tl.crT aN 4 0 12 = aA ∧ Tl.crH aN 4 0 12 = ⟨0, 1⟩ ∧ Tl.crE aN 4 0 12 = 0 := by decide +kernel
theorem aw2 : Tl.crT aA 4 5 1 = aB ∧ Tl.crH aA 4 5 1 = ⟨1, 1⟩ ∧ Tl.crE aA 4 5 1 = 0 := by decide +kernel
theorem aw3 : Tl.crE aB 4 5 1 = 5 ∧ Tl.crT aB 4 5 1 = Tl.t0 ∧ Tl.crH aB 4 5 1 = ⟨0, 0⟩ := by decide +kernel
theorem aw4 : Tl.exT aB 0 1 = aC ∧ Tl.exE aB 0 1 = 0 := by decide +kernel
theorem aw5 : Tl.crT aC 4 5 255 = aD ∧ Tl.crH aC 4 5 255 = ⟨0, 2⟩ ∧ Tl.crE aC 4 5 255 = 0 := by decide +kernel
theorem aw6 : Tl.stT aD 0 2 0 = aS ∧ Tl.stE aD 0 2 0 = 0 := by decide +kernel
theorem aw7 : Tl.chk aD 0 1 = 6 ∧ Tl.chk aD 0 2 = 0 ∧ Tl.rightB aD = true ∧ (Tl.live aC.ws 2).length = 1 ∧ K 134218754 = 2 := by decide +kernel
end Go.Proofs.YtjikabalpejmlaaDoor
