/-
  A slice of nodes, as it comes in; what is told of a tree that may be anything.
-/
import Derived.Test.YtgjacmkedgbneaaSlN
import Derived.Test.YtgjacmkedgbneaaSlG
import Derived.Test.YtgjacmkedgbneaaAgg
import Derived.Test.YtgjacmkedgbneaaTyU
namespace Go.Proofs.Ytgjacmkedgbneaa
open Go.RowKit Go.ChangeAt Go.ChangeShapes Go.WideShapes Go.Deep Tr Wd Tn Ky

/-- A node's six cells. -/
def encN : Enc N := ⟨6, fun n => [.bool n.inn, .bool n.red, .int .u64 n.v, .int .i64 n.l, .int .i64 n.r, .int .i64 n.u], nE, fun n => U n.v, by decide, fun _ => rfl, fun x y hy => by
  simp only [List.mem_cons, List.not_mem_nil, or_false] at hy
  rcases hy with rfl | rfl | rfl | rfl | rfl | rfl <;> rfl⟩
instance : Inhabited N := ⟨nE⟩
theorem node_dec {H : Type} {enc : TypeId × Value → H} {P : Program} {W : World} {b0 : Nat} {held : Bool} {f0 f1 f2 f3 f4 f5 : Field}
    (k0 : P.underlying f0.type = some .bool) (k1 : P.underlying f1.type = some .bool) (k2 : P.underlying f2.type = some (.int .u64)) (k3 : P.underlying f3.type = some (.int .i64)) (k4 : P.underlying f4.type = some (.int .i64)) (k5 : P.underlying f5.type = some (.int .i64)) (cs : List Value) (hl : cs.length = 6)
    (h : ∀ (j : Nat) (f : Field) (c : Value), #[f0, f1, f2, f3, f4, f5][j]? = some f → cs[j]? = some c → ∃ m y, DataW.trod enc P W b0 (fun _ => true) held m f.type [c] = some y) : ∃ x, cs = encN.f x ∧ encN.ok x := by
  obtain ⟨a, b, c, d, e, f, rfl⟩ := list6 hl
  obtain ⟨_, _, t0⟩ := h 0 f0 a rfl rfl
  obtain ⟨_, _, t1⟩ := h 1 f1 b rfl rfl
  obtain ⟨_, _, t2⟩ := h 2 f2 c rfl rfl
  obtain ⟨_, _, t3⟩ := h 3 f3 d rfl rfl
  obtain ⟨_, _, t4⟩ := h 4 f4 e rfl rfl
  obtain ⟨_, _, t5⟩ := h 5 f5 f rfl rfl
  obtain ⟨z0, e0, -⟩ := DataW.trod_bool k0 t0
  obtain ⟨z1, e1, -⟩ := DataW.trod_bool k1 t1
  obtain ⟨z2, e2, -, w2⟩ := DataW.trod_int k2 t2
  obtain ⟨z3, e3, -, w3⟩ := DataW.trod_int k3 t3
  obtain ⟨z4, e4, -, w4⟩ := DataW.trod_int k4 t4
  obtain ⟨z5, e5, -, w5⟩ := DataW.trod_int k5 t5
  obtain rfl := (List.cons.inj e0).1
  obtain rfl := (List.cons.inj e1).1
  obtain rfl := (List.cons.inj e2).1
  obtain rfl := (List.cons.inj e3).1
  obtain rfl := (List.cons.inj e4).1
  obtain rfl := (List.cons.inj e5).1
  exact ⟨⟨z0, z1, z2, z3, z4, z5⟩, rfl, show U z2 from by have := bounds_u64 w2; unfold U M; omega⟩
theorem Els.nds {w : World} {v : Value} {l : List N} (h : Els encN w v l) : Nds w v l := by
  obtain ⟨a, cap, rfl, hm, hw, hc⟩ := h
  refine ⟨a, cap, rfl, hm, hw, fun hz => ?_⟩
  obtain ⟨b, off, rfl, hc2⟩ := hc hz
  exact ⟨b, off, rfl, fun i hi => ⟨hc2 i hi 0 (by decide), hc2 i hi 1 (by decide), hc2 i hi 2 (by decide), hc2 i hi 3 (by decide), hc2 i hi 4 (by decide), hc2 i hi 5 (by decide)⟩⟩
/-- Of any tree and any key it is told what is put in. -/
theorem ins_total {m : Int} {t : T} {k : K} (hk : Kin k) (hU : ∀ x ∈ t.ns, U x.v) : ∃ ti ei, Ins m k t ti ei := by
  by_cases h : RightP m t
  · by_cases hh : t.has k.2
    · obtain ⟨b, hw, hr⟩ := h
      obtain ⟨ti, ei, hi, -⟩ := ins_any hw hr hk (Sub.keyU hU hw.len hw.sub) hh
      exact ⟨ti, ei, hi⟩
    · exact ⟨_, _, .arg h (.inl hh)⟩
  · exact ⟨_, _, .order h⟩
/-- And what is taken out. -/
theorem del_total {m : Int} {t : T} {z : Int} : ∃ td ed, Del m z t td ed := by
  by_cases h : RightP m t
  · by_cases hh : t.has z
    · obtain ⟨b, hw, hr⟩ := h
      obtain ⟨td, ed, hd, -⟩ := del_any hw hr hh
      exact ⟨td, ed, hd⟩
    · exact ⟨_, _, .arg h hh⟩
  · exact ⟨_, _, .order h⟩
theorem walk_total (t : T) : ∃ l n, IsWalk t l ∧ ((∃ b, Whole t b ∧ n = b.high) ∨ (¬ wholeP t ∧ n = 0)) := by
  rcases whole_cases t with ⟨-, b, hw, -⟩ | ⟨-, hn⟩
  · exact ⟨b.keys, b.high, .inl ⟨b, hw, rfl⟩, .inl ⟨b, hw, rfl⟩⟩
  · exact ⟨[], 0, .inr ⟨hn, rfl⟩, .inr ⟨hn, rfl⟩⟩
end Go.Proofs.Ytgjacmkedgbneaa
