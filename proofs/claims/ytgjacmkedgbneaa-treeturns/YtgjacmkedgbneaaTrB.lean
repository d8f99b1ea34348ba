/-
  Plain facts on trees: a tree as one (what is left and right of each node), and that nodes are just that.
-/
import Derived.Test.YtgjacmkedgbneaaTrP
namespace Go.Proofs.Ytgjacmkedgbneaa
namespace Tr
open Wd Tn Ky

/-- A tree as one: nothing, or a node: its number, its color, its time, its children (right is true). -/
inductive B where
  | L : B
  | N (i : Int) (c : Bool) (v : Int) (k : Bool → B) : B
/-- The number of its root. -/
def B.rid : B → Int
  | .L => -1
  | .N i _ _ _ => i
def B.isRed : B → Bool
  | .L => false
  | .N _ c _ _ => c
/-- Its keys, in the walk's order. -/
def B.keys : B → List K
  | .L => []
  | .N i _ v k => (k false).keys ++ (v, i) :: (k true).keys
/-- Its nodes' numbers, in the walk's order. -/
def B.ids : B → List Int
  | .L => []
  | .N i _ _ k => (k false).ids ++ i :: (k true).ids
def B.high : B → Nat
  | .L => 0
  | .N _ _ _ k => 1 + max (k false).high (k true).high
/-- How many nodes that are not Red each way has, and whether these are as many on each, and no Red one has a Red child. -/
def B.plain : B → Nat × Bool
  | .L => (0, true)
  | .N _ c _ k =>
    if (k false).plain.2 = true ∧ (k true).plain.2 = true ∧ (k false).plain.1 = (k true).plain.1 then
      if c then ((k false).plain.1, !(k false).isRed && !(k true).isRed) else ((k false).plain.1 + 1, true)
    else (0, false)
theorem B.ids_len : (b : B) → b.ids.length = b.keys.length
  | .L => rfl
  | .N i c v k => by simp only [B.ids, B.keys, List.length_append, List.length_cons, B.ids_len (k false), B.ids_len (k true)]
theorem B.high_le : (b : B) → b.high ≤ b.keys.length
  | .L => Nat.le_refl _
  | .N i c v k => by
    have h1 := B.high_le (k false)
    have h2 := B.high_le (k true)
    simp only [B.high, B.keys, List.length_append, List.length_cons]
    omega
theorem B.plain_le : (b : B) → b.plain.1 ≤ b.keys.length
  | .L => Nat.le_refl _
  | .N i c v k => by
    have h1 := B.plain_le (k false)
    simp only [B.plain, B.keys, List.length_append, List.length_cons]
    split
    · split <;> (simp only; omega)
    · simp only; omega
/-- The nodes from b's root on, which is come by from u, are just b. -/
def Sub (t : T) : B → Int → Prop
  | .L, _ => True
  | .N i c v k, u => t.has i ∧ t.nd i = ⟨true, c, v, (k false).rid, (k true).rid, u⟩ ∧ Sub t (k false) i ∧ Sub t (k true) i
theorem Sub.ok {t : T} {b : B} {u : Int} (h : Sub t b u) : t.ok b.rid := by
  cases b with
  | L => exact .inl rfl
  | N i c v k => exact .inr h.1
theorem Sub.red {t : T} {b : B} {u : Int} (h : Sub t b u) : t.redB b.rid = b.isRed := by
  cases b with
  | L => rfl
  | N i c v k =>
    have : i ≠ -1 := by have := h.1; unfold T.has at this; omega
    simp [T.redB, B.rid, B.isRed, h.2.1, this]
/-- The tree's nodes are just b, all others are empty. -/
structure Whole (t : T) (b : B) : Prop where
  len : t.ns.length ≤ 64
  root : t.root = b.rid
  sub : Sub t b (-1)
  nod : b.ids.Nodup
  rest : ∀ i, t.has i → i ∉ b.ids → t.nd i = nE
theorem Sub.has {t : T} : {b : B} → {u : Int} → Sub t b u → ∀ i ∈ b.ids, t.has i ∧ (t.nd i).inn = true
  | .L, _, _, i, hi => by cases hi
  | .N j c v k, u, h, i, hi => by
    simp only [B.ids, List.mem_append, List.mem_cons] at hi
    rcases hi with hi | rfl | hi
    · exact Sub.has h.2.2.1 i hi
    · exact ⟨h.1, by rw [h.2.1]⟩
    · exact Sub.has h.2.2.2 i hi
theorem Sub.keyU {t : T} (hU : ∀ x ∈ t.ns, U x.v) (hlen : t.ns.length ≤ 64) : {b : B} → {u : Int} → Sub t b u → ∀ x ∈ b.keys, Kin x
  | .L, _, _, x, hx => by cases hx
  | .N j c v k, u, h, x, hx => by
    simp only [B.keys, List.mem_append, List.mem_cons] at hx
    rcases hx with hx | rfl | hx
    · exact Sub.keyU hU hlen h.2.2.1 x hx
    · have h1 := h.1
      unfold T.has at h1
      refine ⟨?_, by unfold I; simp only; omega⟩
      have h2 := h.2.1
      unfold T.nd at h2
      have hm : t.ns.getD j.toNat nE ∈ t.ns := by simp [List.getD, show j.toNat < t.ns.length by omega]
      have := hU _ hm
      rw [h2] at this
      exact this
    · exact Sub.keyU hU hlen h.2.2.2 x hx
theorem nodup_le : (n : Nat) → {l : List Int} → l.Nodup → (∀ i ∈ l, 0 ≤ i ∧ i < n) → l.length ≤ n
  | 0, l, _, hm => by
    cases l with
    | nil => exact Nat.le_refl _
    | cons a l => have := hm a (by simp); omega
  | n + 1, l, h, hm => by
    by_cases hn : (n : Int) ∈ l
    · have h1 := nodup_le n (l := l.erase n) (h.erase _) (fun i hi => by
        have h2 := (h.mem_erase_iff).1 hi
        have h3 := hm i h2.2
        have h4 := h2.1
        omega)
      rw [List.length_erase_of_mem hn] at h1
      omega
    · have h1 := nodup_le n (l := l) h (fun i hi => by
        have h3 := hm i hi
        have h4 : i ≠ n := fun e => hn (e ▸ hi)
        omega)
      omega
theorem Whole.size {t : T} {b : B} (h : Whole t b) : b.keys.length ≤ 64 := by
  rw [← B.ids_len]
  exact Nat.le_trans (nodup_le t.ns.length h.nod (fun i hi => (h.sub.has i hi).1)) h.len
end Tr
end Go.Proofs.Ytgjacmkedgbneaa
