/-
  A slice of nodes of the call's own, and appending to one; contracts of slices.Clone at nodes, and of tree's begin.
-/
import Derived.Test.YtgjacmkedgbneaaTwI
import Derived.Test.YtgjacmkedgbneaaTwM
namespace Go.Proofs.Ytgjacmkedgbneaa
open Go.RowKit Go.ChangeAt Go.ChangeShapes Go.WideShapes Go.Deep Go.Sort Ky Wd Tn Tr

/-- The call's own slice v holds the nodes l. -/
def OwnN (w : World) (B : Nat) (e : TypeId) (v : Value) (l : List N) : Prop := w.ownsRow B e 6 v l.length (cellsN l)
theorem OwnN.nil (w : World) (B : Nat) (e : TypeId) : OwnN w B e (.slice none 0 0) [] := World.ownsRow_nil w B e 6
theorem OwnN.alloc {w : World} {B : Nat} {e : TypeId} {v : Value} {l : List N} (h : OwnN w B e v l) (o : Obj) : OwnN (w.alloc o) B e v l := World.ownsRow.alloc h o
theorem OwnN.below {w w' : World} {B : Nat} {e : TypeId} {v : Value} {l : List N} (h : OwnN w B e v l) (hb : Below w.heap.size w w') : OwnN w' B e v l := by
  refine World.ownsRow.kept (row := none) h ⟨hb.os, hb.tape, hb.output, hb.size, fun i hi _ => hb.block i hi⟩ ?_
  cases v.ownBlock <;> simp
theorem OwnN.lt {w : World} {B : Nat} {e : TypeId} {v : Value} {l : List N} (h : OwnN w B e v l) : ∀ r, v.ownBlock = some r → B ≤ r := fun r hr => (World.ownsRow.lt h r hr).1
theorem OwnN.nds {w : World} {B : Nat} {e : TypeId} {v : Value} {l : List N} (h : OwnN w B e v l) (hw : ∀ x ∈ l, U x.v) : Nds w v l := by
  have h0 := h
  obtain ⟨hl, hr⟩ := h
  rcases hr with ⟨rfl, h1⟩ | ⟨g, cap, cur, rfl, _, hg, hn, hm, _, ht⟩
  · obtain rfl := List.eq_nil_of_length_eq_zero h1
    exact ⟨none, 0, rfl, ⟨Nat.le_refl _, Nat.zero_le _⟩, by simp, fun h => absurd rfl h⟩
  · refine ⟨some ⟨g, 0, none⟩, cap, rfl, ⟨hn, hm⟩, hw, fun _ => ⟨g, 0, rfl, fun i hi => ?_⟩⟩
    have each : ∀ j (hj : j < 6) x, (cellsN1 (l.getD i nE))[j]? = some x → w.cell? ⟨g, 0 + i * 6 + j, none⟩ = some x := by
      intro j hj x hx
      have := World.ownsRow.cells h0 (g := g) rfl (i * 6 + j) x (by rw [cellsN_at l i hi j hj]; exact hx)
      rw [Go.WideShapes.add_plain] at this
      rw [show 0 + i * 6 + j = 0 + (i * 6 + j) by omega]
      exact this
    exact ⟨each 0 (by omega) _ rfl, each 1 (by omega) _ rfl, each 2 (by omega) _ rfl, each 3 (by omega) _ rfl, each 4 (by omega) _ rfl, each 5 (by omega) _ rfl⟩

section
variable {P : Program} {w : World} {B : Nat} {t ty e : TypeId} {i : TypeInfo} {z v u : Value} {bytes : Nat} {zs ys : List N}
theorem run_append_none_n (ht : P.underlying t = some (.slice e)) (hi : P.info? e = some i) (h : OwnN w B e v zs) (a : Option Addr) (cap : Nat) :
    (Builtin.append_ #[t, t] ty #[v, .slice a 0 cap]).run P w = .ok v w := by
  rcases h.2 with ⟨rfl, h0⟩ | ⟨g, c, cur, rfl, _, _, hnc, _⟩
  · cases a <;> simp [Builtin.append_, run_underlying ht, sizeOf, typeInfo, hi, Builtin.lenOf, Builtin.firstCells, loadCells, loadCellsFrom]
  · cases a <;> simp [Builtin.append_, run_underlying ht, sizeOf, typeInfo, hi, Builtin.lenOf, Builtin.firstCells, loadCells, loadCellsFrom, hnc, storeCells]
theorem run_append_nodes (ht : P.underlying t = some (.slice e)) (hi : P.info? e = some i) (hz : i.zero = some z) (hsize : i.size = 6) (hby : i.bytes = bytes) (hzs : z.cells.size = 6)
    (h : OwnN w B e v zs) (hx : Nds w u ys) (hroom : zs.length + ys.length ≤ 1048576) (hb : bytes ≤ 1048576) (hB : B ≤ w.heap.size) :
    ∃ v' w', (Builtin.append_ #[t, t] ty #[v, u]).run P w = .ok v' w' ∧ OwnN w' B e v' (zs ++ ys) ∧ w.grownBy w' v.ownBlock := by
  rcases hx.parts with ⟨rfl, a, cap, rfl⟩ | ⟨hp, b, off, cap, rfl, hm, hbw, hc⟩
  · refine ⟨v, w, run_append_none_n ht hi h a cap, by simpa using h, ⟨rfl, rfl, rfl, Nat.le_refl _, fun _ _ _ => rfl⟩⟩
  · have hmul : (zs.length + ys.length) * bytes ≤ 140737488355328 := Nat.le_trans (Nat.mul_le_mul hroom hb) (by omega)
    obtain ⟨v', w', hr, h2, h3, h4⟩ := run_append_own (P := P) w B t ty e i z 6 bytes ht hi hz hsize hby hzs (by omega) v zs.length (cellsN zs) h ⟨b, off, none⟩ ys.length cap (cellsN ys) (cellsN_length ys)
      (fun j y hy => by
        have hj : j < (cellsN ys).length := (List.getElem?_eq_some_iff.1 hy).1
        rw [cellsN_length] at hj
        rw [Go.WideShapes.add_plain]
        obtain ⟨k0, k1, k2, k3, k4, k5⟩ := hc (j / 6) (by omega)
        have hd : j = j / 6 * 6 + j % 6 := by omega
        have haj := cellsN_at ys (j / 6) (by omega) (j % 6) (by omega)
        rw [← hd, hy] at haj
        have hm6 : j % 6 < 6 := by omega
        rw [show off + j = off + j / 6 * 6 + j % 6 by omega]
        generalize j % 6 = q at haj hm6 ⊢
        rcases (show q = 0 ∨ q = 1 ∨ q = 2 ∨ q = 3 ∨ q = 4 ∨ q = 5 by omega) with rfl | rfl | rfl | rfl | rfl | rfl
        · rw [haj]; exact k0
        · rw [haj]; exact k1
        · rw [haj]; exact k2
        · rw [haj]; exact k3
        · rw [haj]; exact k4
        · rw [haj]; exact k5)
      (cellsN_one ys) (by unfold maxLen; omega) hmul hB
    refine ⟨v', w', hr, ?_, h3⟩
    unfold OwnN
    rw [List.length_append, cellsN_append]
    exact h2
/-- The walk's step at an append of nodes onto a slice of the call's own. -/
theorem wpList_append_nodes {ops : Array Oper} {rest : List Oper} {o : Oper} {a : Act} {Q : Exit → Act → World → Prop} (hgd : o.guard = none) (s x : Operand) (t : TypeId)
    (ho : o.op = .call { callee := .builtin .append, args := #[s, x], argTypes := #[t, t] }) (B : Nat) (e : TypeId) (ht : P.underlying t = some (.slice e)) (hi : (P.info? e).map (fun i => (i.zero, i.size, i.bytes)) = some (some (.agg #[.bool false, .bool false, .int .u64 0, .int .i64 0, .int .i64 0, .int .i64 0]), 6, bytes))
    (hb : bytes ≤ 1048576) (va vx : Value) (hva : a.eval s = va) (hvx : a.eval x = vx) (zs ys : List N) (h : OwnN w B e va zs) (hx : Nds w vx ys) (hroom : zs.length + ys.length ≤ 1048576) (hB : B ≤ w.heap.size)
    (hK : ∀ v' w', OwnN w' B e v' (zs ++ ys) → Below B w w' → wpList P ops Q rest (a.put o.dst v') w') : wpList P ops Q (o :: rest) a w := by
  obtain ⟨i, hi, hz, hs1, hs2⟩ := info_parts hi
  subst hva hvx
  obtain ⟨v', w', hr, h2, h3⟩ := run_append_nodes (ty := o.type) ht hi hz hs1 hs2 rfl h hx hroom hb hB
  refine wpList_plain hgd fun K hKK => ?_
  have hbel : Below B w w' := (Below.refl B w).grown h3 hB h.lt
  unfold Oper.wp execOp
  simp only [ho, resolve, invoke, builtin, Sem.run_bind, Sem.run_pure, Result.andThen_ok, List.map_toArray, List.map_cons, List.map_nil, hr]
  exact hKK _ _ (hK v' w' h2 hbel)
end
theorem info_node : (Try.prog.info? 57).map (fun i => (i.zero, i.size, i.bytes)) = some (some (.agg #[.bool false, .bool false, .int .u64 0, .int .i64 0, .int .i64 0, .int .i64 0]), 6, 40) := by kernel_rfl

set_option maxRecDepth 100000 in
theorem clone_at {W : World} {v : Value} {l : List N} (hN : Nds W v l) (hp : 0 < l.length) (hl : l.length ≤ 1000) :
    Calls Try.prog 60 #[v] W fun e w' => (∃ v', e = .returned v' ∧ OwnN w' W.heap.size 57 v' l) ∧ Below W.heap.size W w' := by
  have HN := Lib.hid hN
  obtain ⟨a, cap, rfl, hc1, hc2⟩ := hN.len
  have hne : a ≠ none := by
    rintro rfl
    rcases hN.parts with ⟨h0, -⟩ | ⟨-, b, off, c, e, -⟩
    · rw [h0] at hp; simp at hp
    · cases e
  obtain ⟨A, rfl⟩ := Option.ne_none_iff_exists'.1 hne
  have hbe : ∀ w, (binOp BinOp.eql 22 (.slice (some A) l.length cap) (.slice none 0 0)).run Try.prog w = .ok (.bool false) w := by intro w; rfl
  clear hN hne
  go_enter Try.func60, Try.ntmps60
  go_wp2_with (refine wpList_append_nodes rfl (.tmp 5) (.tmp 6) 22 rfl W.heap.size 57 Try.underlying22 info_node (by decide) (.slice (some ⟨W.heap.size, 0, none⟩) 0 0) (.slice (some A) l.length cap) (by simp [Act.eval]) (by simp [Act.eval]) [] l (World.ownsRow_made W #[] 0 (Nat.le_refl _) (Nat.zero_le _) rfl) (HN.out.below ((Below.refl _ _).alloc (Nat.le_refl _) _)) (by simp only [List.length_nil]; omega) (by simp) ?_; intro v' w2 hO2 hb2)
  have HF := Lib.hid (And.intro hO2 ((((Below.refl W.heap.size W).alloc (Nat.le_refl _) (.cells #[] 57))).trans hb2))
  clear hO2 hb2
  go_wp2_with fail
  go_ret
  exact ⟨⟨v', rfl, by simpa using HF.out.1⟩, HF.out.2⟩
end Go.Proofs.Ytgjacmkedgbneaa
