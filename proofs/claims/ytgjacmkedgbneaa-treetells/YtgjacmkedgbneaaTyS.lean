/-
  Plain facts on trees: the nodes that are come by, as the document gathers them; a tree is whole just if all that are In are gathered.
  Contracts of turnspitref09's in and gather.
  The contract of turnspitref09's gather. (Written by a program of the verifier's.)
  The contract of turnspitref09's order.
  Contracts of turnspitref09's Walk, First, height and Height.
  Contracts of turnspitref09's blacks and Right.
-/
import Derived.Test.YtgjacmkedgbneaaPlA
import Derived.Test.YtgjacmkedgbneaaTyC
import Derived.Test.YtgjacmkedgbneaaSlA
import Derived.Deep.RegionHeld3
import Derived.Test.YtgjacmkedgbneaaTyG
import Derived.Test.YtgjacmkedgbneaaTyE
import Derived.Test.YtgjacmkedgbneaaTwM
namespace Go.Proofs.Ytgjacmkedgbneaa
namespace Tr
open Wd Tn Ky

/-- The nodes from x on, which is come by from u, behind some ways: the nodes, the ways, whether all is as it should be. -/
def gatherF (t : T) : Nat → Int → Int → List Int → List Int × List Int × Bool
  | 0, _, _, ways => ([], ways, false)
  | n + 1, x, u, ways =>
    if x = -1 then ([], ways, true)
    else if ¬ t.has x ∨ x ∈ ways then ([], ways, false)
    else if (t.nd x).inn = false ∨ (t.nd x).u ≠ u then ([], ways, false)
    else if (gatherF t n (t.nd x).l x (ways ++ [x])).2.2 = false then ([], (gatherF t n (t.nd x).l x (ways ++ [x])).2.1, false)
    else ((gatherF t n (t.nd x).l x (ways ++ [x])).1 ++ x :: (gatherF t n (t.nd x).r x (gatherF t n (t.nd x).l x (ways ++ [x])).2.1).1,
      (gatherF t n (t.nd x).r x (gatherF t n (t.nd x).l x (ways ++ [x])).2.1).2.1,
      (gatherF t n (t.nd x).r x (gatherF t n (t.nd x).l x (ways ++ [x])).2.1).2.2)
/-- Ways: tasks' numbers, each once. -/
def Ways (t : T) (l : List Int) : Prop := l.Nodup ∧ ∀ i ∈ l, t.has i
theorem Ways.le {t : T} {l : List Int} (h : Ways t l) : l.length ≤ t.ns.length := nodup_le _ h.1 fun i hi => h.2 i hi
theorem Ways.snoc {t : T} {l : List Int} (h : Ways t l) {x : Int} (hx : t.has x) (hn : x ∉ l) : Ways t (l ++ [x]) := by
  refine ⟨?_, fun i hi => ?_⟩
  · rw [List.nodup_append]
    refine ⟨h.1, by simp, ?_⟩
    rintro a ha b hb rfl
    simp at hb
    subst hb
    exact hn ha
  · simp only [List.mem_append, List.mem_singleton] at hi
    rcases hi with hi | rfl
    · exact h.2 i hi
    · exact hx
/-- What gathering keeps. -/
theorem gather_keeps (t : T) (n : Nat) : ∀ (x u : Int) (ways : List Int), Ways t ways →
    Ways t (gatherF t n x u ways).2.1 ∧ (gatherF t n x u ways).1.length + ways.length ≤ (gatherF t n x u ways).2.1.length ∧ (∀ i ∈ (gatherF t n x u ways).1, t.has i) := by
  induction n with
  | zero => intro x u ways h; exact ⟨h, by simp [gatherF], by simp [gatherF]⟩
  | succ n ih =>
    intro x u ways h
    unfold gatherF
    split
    · exact ⟨h, by simp, by simp⟩
    · split
      · exact ⟨h, by simp, by simp⟩
      · rename_i hx
        split
        · exact ⟨h, by simp, by simp⟩
        · have hh : t.has x := Decidable.byContradiction fun hc => hx (.inl hc)
          have hn : x ∉ ways := fun hc => hx (.inr hc)
          obtain ⟨h1, h2, h3⟩ := ih (t.nd x).l x (ways ++ [x]) (h.snoc hh hn)
          rw [List.length_append, List.length_singleton] at h2
          split
          · refine ⟨h1, ?_, by simp⟩
            simp only [List.length_nil]
            omega
          · obtain ⟨g1, g2, g3⟩ := ih (t.nd x).r x (gatherF t n (t.nd x).l x (ways ++ [x])).2.1 h1
            refine ⟨g1, ?_, fun i hi => ?_⟩
            · simp only [List.length_append, List.length_cons]
              omega
            · simp only [List.mem_append, List.mem_cons] at hi
              rcases hi with hi | rfl | hi
              · exact h3 i hi
              · exact hh
              · exact g3 i hi
theorem gather_tree (t : T) (n : Nat) : ∀ (x u : Int) (ways : List Int), (gatherF t n x u ways).2.2 = true →
    ∃ b : B, b.rid = x ∧ Sub t b u ∧ b.ids = (gatherF t n x u ways).1 ∧ b.ids.Nodup ∧ (∀ i ∈ b.ids, i ∉ ways) ∧ ∀ i, i ∈ (gatherF t n x u ways).2.1 ↔ i ∈ ways ∨ i ∈ b.ids := by
  induction n with
  | zero => intro x u ways h; simp [gatherF] at h
  | succ n ih =>
    intro x u ways
    unfold gatherF
    split
    · rename_i hx
      intro _
      exact ⟨.L, hx.symm, trivial, rfl, by simp [B.ids], by simp [B.ids], by simp [B.ids]⟩
    · split
      · intro h; cases h
      · rename_i hx
        split
        · intro h; cases h
        · rename_i hu
          have hh : t.has x := Decidable.byContradiction fun hc => hx (.inl hc)
          have hn : x ∉ ways := fun hc => hx (.inr hc)
          split
          · intro h; cases h
          · rename_i hok
            intro h
            have hok' : (gatherF t n (t.nd x).l x (ways ++ [x])).2.2 = true := by
              cases hc : (gatherF t n (t.nd x).l x (ways ++ [x])).2.2 with
              | true => rfl
              | false => exact absurd hc hok
            obtain ⟨b1, r1, s1, i1, d1, a1, m1⟩ := ih _ _ _ hok'
            obtain ⟨b2, r2, s2, i2, d2, a2, m2⟩ := ih _ _ _ h
            refine ⟨.N x (t.nd x).red (t.nd x).v (fun s => if s then b2 else b1), rfl, ⟨hh, ?_, s1, s2⟩, ?_, ?_, ?_, ?_⟩
            · rw [← N_eq]
              refine ⟨?_, rfl, rfl, r1.symm, r2.symm, ?_⟩
              · show (t.nd x).inn = true
                cases hc : (t.nd x).inn with
                | true => rfl
                | false => exact absurd (.inl hc) hu
              · show (t.nd x).u = u
                exact Decidable.byContradiction fun hc => hu (.inr hc)
            · show b1.ids ++ x :: b2.ids = _
              rw [i1, i2]
            · show (b1.ids ++ x :: b2.ids).Nodup
              rw [List.nodup_append]
              refine ⟨d1, ?_, ?_⟩
              · rw [List.nodup_cons]
                refine ⟨fun hc => ?_, d2⟩
                refine a2 x hc ((m1 x).2 (.inl ?_))
                simp
              · rintro i hi j hj rfl
                simp only [List.mem_cons] at hj
                rcases hj with rfl | hj
                · exact a1 _ hi (by simp)
                · exact a2 _ hj ((m1 _).2 (.inr hi))
            · intro i hi hw
              have hi' : i ∈ b1.ids ++ x :: b2.ids := hi
              simp only [List.mem_append, List.mem_cons] at hi'
              rcases hi' with hi | rfl | hi
              · exact a1 i hi (by simp [hw])
              · exact hn hw
              · exact a2 i hi ((m1 i).2 (.inl (by simp [hw])))
            · intro i
              show i ∈ _ ↔ i ∈ ways ∨ i ∈ b1.ids ++ x :: b2.ids
              rw [m2 i, m1 i]
              simp only [List.mem_append, List.mem_cons, List.not_mem_nil, or_false]
              constructor
              · rintro (((h | h) | h) | h)
                · exact .inl h
                · exact .inr (.inr (.inl h))
                · exact .inr (.inl h)
                · exact .inr (.inr (.inr h))
              · rintro (h | h | h | h)
                · exact .inl (.inl (.inl h))
                · exact .inl (.inr h)
                · exact .inl (.inl (.inr h))
                · exact .inr h
theorem tree_gather (t : T) : (b : B) → ∀ (u : Int) (n : Nat) (ways : List Int), Sub t b u → b.ids.Nodup → (∀ i ∈ b.ids, i ∉ ways) → b.ids.length < n →
    (gatherF t n b.rid u ways).1 = b.ids ∧ (gatherF t n b.rid u ways).2.2 = true ∧ ∀ i, i ∈ (gatherF t n b.rid u ways).2.1 ↔ i ∈ ways ∨ i ∈ b.ids
  | .L, u, n, ways, _, _, _, hn => by
    obtain ⟨m, rfl⟩ : ∃ m, n = m + 1 := ⟨n - 1, by simp only [B.ids, List.length_nil] at hn; omega⟩
    have e : gatherF t (m + 1) (-1) u ways = ([], ways, true) := by unfold gatherF; rw [if_pos rfl]
    show (gatherF t (m + 1) (-1) u ways).1 = _ ∧ (gatherF t (m + 1) (-1) u ways).2.2 = true ∧ ∀ i, i ∈ (gatherF t (m + 1) (-1) u ways).2.1 ↔ _
    rw [e]
    exact ⟨rfl, rfl, by simp [B.ids]⟩
  | .N x c v k, u, n, ways, hs, hd, ha, hn => by
    obtain ⟨m, rfl⟩ : ∃ m, n = m + 1 := ⟨n - 1, by simp only [B.ids, List.length_append, List.length_cons] at hn; omega⟩
    have hd' : ((k false).ids ++ x :: (k true).ids).Nodup := hd
    have ha' : ∀ i ∈ (k false).ids ++ x :: (k true).ids, i ∉ ways := ha
    have hn' : ((k false).ids ++ x :: (k true).ids).length < m + 1 := hn
    rw [List.nodup_append, List.nodup_cons] at hd'
    obtain ⟨d1, ⟨d2, d3⟩, d4⟩ := hd'
    rw [List.length_append, List.length_cons] at hn'
    obtain ⟨h1, h2, h3, h4⟩ := hs
    obtain ⟨g1, g2, g3⟩ := tree_gather t (k false) x m (ways ++ [x]) h3 d1 (fun i hi hw => by
      simp only [List.mem_append, List.mem_singleton] at hw
      rcases hw with hw | rfl
      · exact ha' i (by simp [hi]) hw
      · exact d4 _ hi _ (by simp) rfl) (by omega)
    obtain ⟨f1, f2, f3⟩ := tree_gather t (k true) x m (gatherF t m (k false).rid x (ways ++ [x])).2.1 h4 d3 (fun i hi hw => by
      rw [g3 i] at hw
      simp only [List.mem_append, List.mem_singleton] at hw
      rcases hw with (hw | rfl) | hw
      · exact ha' i (by simp [hi]) hw
      · exact d2 hi
      · exact d4 _ hw _ (by simp [hi]) rfl) (by omega)
    have hx : x ≠ -1 := has_ne h1
    have el : (t.nd x).l = (k false).rid := by rw [h2]
    have er : (t.nd x).r = (k true).rid := by rw [h2]
    have e : gatherF t (m + 1) x u ways = ((gatherF t m (k false).rid x (ways ++ [x])).1 ++ x :: (gatherF t m (k true).rid x (gatherF t m (k false).rid x (ways ++ [x])).2.1).1, (gatherF t m (k true).rid x (gatherF t m (k false).rid x (ways ++ [x])).2.1).2.1, (gatherF t m (k true).rid x (gatherF t m (k false).rid x (ways ++ [x])).2.1).2.2) := by
      rw [gatherF]
      rw [if_neg hx, if_neg (by rintro (hc | hc); exact hc h1; exact ha' x (by simp) hc), if_neg (by rw [h2]; simp), el, er, if_neg (by rw [g2]; simp)]
    show (gatherF t (m + 1) x u ways).1 = _ ∧ (gatherF t (m + 1) x u ways).2.2 = true ∧ ∀ i, i ∈ (gatherF t (m + 1) x u ways).2.1 ↔ _
    rw [e]
    refine ⟨by simp only [g1, f1]; rfl, f2, fun i => ?_⟩
    show i ∈ (gatherF t m (k true).rid x (gatherF t m (k false).rid x (ways ++ [x])).2.1).2.1 ↔ i ∈ ways ∨ i ∈ (k false).ids ++ x :: (k true).ids
    rw [f3 i, g3 i]
    simp only [List.mem_append, List.mem_cons, List.not_mem_nil, or_false]
    constructor
    · rintro (((h | h) | h) | h)
      · exact .inl h
      · exact .inr (.inr (.inl h))
      · exact .inr (.inl h)
      · exact .inr (.inr (.inr h))
    · rintro (h | h | h | h)
      · exact .inl (.inl (.inl h))
      · exact .inl (.inr h)
      · exact .inl (.inl (.inr h))
      · exact .inr h
theorem sub_le : {l L : List Int} → l.Nodup → (∀ i ∈ l, i ∈ L) → l.length ≤ L.length
  | [], _, _, _ => Nat.zero_le _
  | a :: l, L, hd, hs => by
    rw [List.nodup_cons] at hd
    have ha := hs a (by simp)
    have h1 := sub_le (l := l) (L := L.erase a) hd.2 (fun i hi => (List.mem_erase_of_ne (fun e => hd.1 (by rw [← e]; exact hi))).2 (hs i (by simp [hi])))
    have h2 := List.length_erase_of_mem ha
    have h3 : 0 < L.length := List.length_pos_of_mem ha
    simp only [List.length_cons]
    omega
/-- Those that are In, of the first ones. -/
def innL (t : T) (j : Nat) : List Int := ((List.range j).filter fun i => (t.nd ((i : Nat) : Int)).inn).map fun i => ((i : Nat) : Int)
theorem innL_succ (t : T) (j : Nat) : innL t (j + 1) = if (t.nd j).inn then innL t j ++ [(j : Int)] else innL t j := by
  unfold innL
  rw [List.range_succ, List.filter_append, List.map_append]
  by_cases h : (t.nd j).inn
  · simp [h]
  · simp [h]
theorem innL_le (t : T) (j : Nat) : (innL t j).length ≤ j := by
  unfold innL
  rw [List.length_map]
  exact Nat.le_trans (List.length_filter_le _ _) (by simp)
theorem mem_innL (t : T) (j : Nat) (i : Int) : i ∈ innL t j ↔ 0 ≤ i ∧ i < j ∧ (t.nd i).inn = true := by
  unfold innL
  simp only [List.mem_map, List.mem_filter, List.mem_range]
  constructor
  · rintro ⟨k, ⟨h1, h2⟩, rfl⟩
    exact ⟨by omega, by omega, h2⟩
  · rintro ⟨h1, h2, h3⟩
    exact ⟨i.toNat, ⟨by omega, by rw [Int.toNat_of_nonneg h1]; exact h3⟩, by omega⟩
theorem nodup_innL (t : T) : (j : Nat) → (innL t j).Nodup
  | 0 => by simp [innL]
  | j + 1 => by
    rw [innL_succ]
    split
    · rw [List.nodup_append]
      refine ⟨nodup_innL t j, by simp, ?_⟩
      rintro a ha b hb rfl
      simp at hb
      subst hb
      rw [mem_innL] at ha
      omega
    · exact nodup_innL t j
/-- What the document gathers of a tree. -/
def gat (t : T) : List Int × List Int × Bool := gatherF t 65 t.root (-1) []
def orderP (t : T) : Prop := t.ns.length ≤ 64 ∧ (∀ i : Nat, i < t.ns.length → (t.nd i).inn = true ∨ t.nd i = nE) ∧ (gat t).2.2 = true ∧ (innL t t.ns.length).length = (gat t).1.length
theorem orderP.whole {t : T} (h : orderP t) : ∃ b, Whole t b ∧ b.ids = (gat t).1 := by
  obtain ⟨hl, he, hg, hc⟩ := h
  obtain ⟨b, r, s, e, d, -, -⟩ := gather_tree t 65 t.root (-1) [] hg
  refine ⟨b, ⟨hl, r.symm, s, d, fun i hi hn => ?_⟩, e⟩
  have hi' := hi
  unfold T.has at hi'
  have hk := he i.toNat (by omega)
  rw [Int.toNat_of_nonneg hi'.1] at hk
  rcases hk with hk | hk
  · have h1 : (i :: b.ids).length ≤ (innL t t.ns.length).length := sub_le (List.nodup_cons.2 ⟨hn, d⟩) (fun j hj => by
      simp only [List.mem_cons] at hj
      rw [mem_innL]
      rcases hj with rfl | hj
      · exact ⟨hi'.1, by omega, hk⟩
      · have := (s.has j hj)
        exact ⟨this.1.1, this.1.2, this.2⟩)
    rw [List.length_cons, e, hc] at h1
    unfold gat at h1
    omega
  · exact hk
theorem Whole.order {t : T} {b : B} (h : Whole t b) : orderP t ∧ (gat t).1 = b.ids := by
  have hsz : b.ids.length ≤ 64 := by rw [B.ids_len]; exact h.size
  obtain ⟨g1, g2, -⟩ := tree_gather t b (-1) 65 [] h.sub h.nod (by simp) (by omega)
  rw [← h.root] at g1 g2
  refine ⟨⟨h.len, fun i hi => ?_, g2, ?_⟩, g1⟩
  · have hh : t.has i := ⟨by omega, by omega⟩
    by_cases hin : (i : Int) ∈ b.ids
    · exact .inl (h.sub.has _ hin).2
    · exact .inr (h.rest i hh hin)
  · refine Nat.le_antisymm ?_ ?_
    · refine sub_le (nodup_innL _ _) fun i hi => ?_
      rw [mem_innL] at hi
      show i ∈ (gatherF t 65 t.root (-1) []).1
      rw [g1]
      refine Decidable.byContradiction fun hn => ?_
      have := h.rest i ⟨hi.1, by omega⟩ hn
      rw [this] at hi
      exact absurd hi.2.2 (by simp [nE])
    · show (gatherF t 65 t.root (-1) []).1.length ≤ _
      rw [g1]
      refine sub_le h.nod fun i hi => ?_
      rw [mem_innL]
      have := h.sub.has i hi
      exact ⟨this.1.1, this.1.2, this.2⟩
end Tr
end Go.Proofs.Ytgjacmkedgbneaa

namespace Go.Proofs.Ytgjacmkedgbneaa
open Go.RowKit Go.Sort Ky Wd Tn Tr

theorem info_int : (Try.prog.info? 3).map (fun i => (i.zero, i.size, i.bytes)) = some (some (.int .i64 0), 1, 8) := by kernel_rfl
/-- The step of a region that draws, at an append of integers onto a slice of the call's own. -/
theorem step_append_ints {P : Program} {w : World} {bytes : Nat} {k : IntKind} {ops : Array Oper} {o : Oper} {a : Act} {Kk : Act → World → Prop} {Q : Exit → Act → World → Prop} {E : Prop} (hgd : o.guard = none) (s x : Operand) (t : TypeId)
    (ho : o.op = .call { callee := .builtin .append, args := #[s, x], argTypes := #[t, t] }) (B : Nat) (e : TypeId) (ht : P.underlying t = some (.slice e)) (hi : (P.info? e).map (fun i => (i.zero, i.size, i.bytes)) = some (some (.int k 0), 1, bytes))
    (hb : bytes ≤ 1048576) (v u : Value) (hv : a.eval s = v) (hu : a.eval x = u) (zs ys : List Int) (h : Own k w B e v zs) (hx : Ints k w u ys) (hroom : zs.length + ys.length ≤ 1048576) (hB : B ≤ w.heap.size)
    (hK : ∀ v' w', Own k w' B e v' (zs ++ ys) → Below B w w' → Kk (a.put o.dst v') w') : if Region.wanted o (yielded ops a.tmps) = true then Oper.wp P o a w Kk Q else E := by
  have hw : Region.wanted o (yielded ops a.tmps) = true := by simp [Region.wanted, hgd]
  rw [if_pos hw]
  subst hv hu
  obtain ⟨i, hi, hz, hs1, hs2⟩ := info_parts hi
  obtain ⟨v', w', hr, h2, h3⟩ := run_append_ints (ty := o.type) ht hi hz hs1 hs2 rfl h hx hroom hb hB
  have hbel : Below B w w' := (Below.refl B w).grown h3 hB h.lt
  unfold Oper.wp execOp
  simp only [ho, resolve, invoke, builtin, Sem.run_bind, Sem.run_pure, Result.andThen_ok, List.map_toArray, List.map_cons, List.map_nil, hr]
  exact hK v' w' h2 hbel
theorem one_int (w : World) (ty : TypeId) (x : Int) (hx : (Lit.int .i64 x).wf = true) : Ints .i64 (w.alloc (.cells #[.int .i64 x] ty)) (.slice (some ⟨w.heap.size, 0, none⟩) 1 1) [x] := by
  refine ⟨_, _, rfl, by unfold maxLen; simp, by simpa using hx, fun _ => ⟨_, _, rfl, fun i hi => ?_⟩⟩
  have : i = 0 := by simp at hi; omega
  subst this
  unfold World.cell?
  rw [heap_alloc_new]
  rfl
theorem nil_ints (k : IntKind) (w : World) : Ints k w (.slice none 0 0) [] := ⟨none, 0, rfl, Nat.zero_le _, by simp, fun h => absurd rfl h⟩

theorem rin_none (x : Int) (a : Option Addr) (cap : Nat) (W : World) : Calls Try.prog 81 #[.slice a 0 cap, .int .i64 x] W fun e w' => e = .returned (.bool false) ∧ W = w' := by
  go_enter Try.func81, Try.ntmps81
  go_wp2
  refine wp_loop_rounds 1 ?_
  rw [rounds_succ]
  go_wp2
  go_ret
  exact ⟨rfl, rfl⟩
set_option maxHeartbeats 400000 in
theorem rin_some (x : Int) {l : List Int} {W : World} {b off cap : Nat} (hl : l.length ≤ maxLen) (hc : ∀ i, i < l.length → W.cell? ⟨b, off + i, none⟩ = some (.int .i64 (l.getD i 0))) :
    Calls Try.prog 81 #[.slice (some ⟨b, off, none⟩) l.length cap, .int .i64 x] W fun e w' => e = .returned (.bool (decide (x ∈ l))) ∧ W = w' := by
  have HC := Lib.hid hc
  obtain ⟨r, hr⟩ : ∃ r, decide (x ∈ l) = r := ⟨_, rfl⟩
  rw [hr]
  have HR := Lib.hid hr
  unfold maxLen at hl
  clear hc hr
  go_enter Try.func81, Try.ntmps81
  go_wp2
  go_loop [5] (fun i => ∃ k : Nat, k ≤ l.length ∧ i = .int .i64 k ∧ Hid (∀ j, j < k → l.getD j 0 ≠ x)) (fun i => l.length - (intOf i).toNat)
  case atStart => exact ⟨0, by omega, rfl, Lib.hid (fun j hj => absurd hj (Nat.not_lt_zero _))⟩
  case round =>
    obtain ⟨k, hk, rfl, HK⟩ := hrel
    by_cases hlt : k < l.length
    · have c1 := HC.out k hlt
      by_cases he : l.getD k 0 = x
      · have HE : Hid (r = true) := Lib.hid (by
          rw [← HR.out, decide_eq_true_eq, ← he]
          simp [List.getD, hlt])
        generalize l.getD k 0 = y at c1 he
        have e1 : (y == x) = true := by simpa using he
        clear he
        go_wp2
        go_ret
        exact ⟨by rw [HE.out]; rfl, rfl⟩
      · have HN : Hid (∀ j, j < k + 1 → l.getD j 0 ≠ x) := Lib.hid (fun j hj => by
          rcases (show j < k ∨ j = k by omega) with h | rfl
          · exact HK.out j h
          · exact he)
        generalize l.getD k 0 = y at c1 he
        have e1 : (y == x) = false := by simpa using he
        clear he
        go_wp2
        go_round
        case rel => exact ⟨k + 1, by omega, by go_num, HN⟩
        case measure => simp [intOf]; omega
    · obtain rfl : k = l.length := by omega
      have HE : Hid (r = false) := Lib.hid (by
        rw [← HR.out, decide_eq_false_iff_not]
        intro hm
        obtain ⟨j, hj, he⟩ := List.getElem_of_mem hm
        refine HK.out j hj ?_
        simp [List.getD, hj, he])
      go_wp2
      go_ret
      exact ⟨by rw [HE.out]; rfl, rfl⟩
theorem rin_at (x : Int) {W : World} {v : Value} {l : List Int} (h : Ints .i64 W v l) : Calls Try.prog 81 #[v, .int .i64 x] W fun e w' => e = .returned (.bool (decide (x ∈ l))) ∧ W = w' := by
  rcases h.parts with ⟨rfl, a, cap, rfl⟩ | ⟨hp, hm, b, off, cap, rfl, hb, hc⟩
  · have := rin_none x a cap W
    simpa using this
  · exact rin_some x hm hc

/-- What gather tells. -/
def Gt (t : T) (n : Nat) (x u : Int) (ways : List Int) (W : World) (e : Ending) (w' : World) : Prop :=
  ∃ vl vs, e = .returned (.tuple #[vl, vs, .bool (gatherF t n x u ways).2.2]) ∧ Ints .i64 w' vl (gatherF t n x u ways).1 ∧ Ints .i64 w' vs (gatherF t n x u ways).2.1 ∧ Below W.heap.size W w'

section
variable {W : World} {v vw : Value} {t : T} {x u : Int} {ways : List Int} {n : Nat}
theorem gather_none (hN : Nds W v t.ns) (hW : Ints .i64 W vw ways) : Calls Try.prog 74 #[.agg #[.int .i64 t.root, v], .int .i64 (-1), .int .i64 u, vw] W (Gt t (n + 1) (-1) u ways W) := by
  have e : gatherF t (n + 1) (-1) u ways = ([], ways, true) := by unfold gatherF; rw [if_pos rfl]
  unfold Gt
  rw [e]
  obtain ⟨a, cap, rfl, -, -⟩ := hN.len
  obtain ⟨a2, c2, rfl⟩ : ∃ a2 c2, vw = .slice a2 ways.length c2 := ⟨_, _, hW.choose_spec.choose_spec.1⟩
  have HW := Lib.hid (hW.below (Gr.alloc W (.cells #[.int .i64 t.root, .slice a t.ns.length cap] 24)).below)
  have HB := Lib.hid (Gr.alloc W (.cells #[.int .i64 t.root, .slice a t.ns.length cap] 24)).below
  clear hN hW e
  go_enter Try.func74, Try.ntmps74
  go_wp2
  exact bodyPost_ret (v := .tuple #[.slice none 0 0, .slice a2 ways.length c2, .bool true]) (by simp [results, Try.results74, go_sem]) rfl ⟨_, _, rfl, nil_ints _ _, HW.out, HB.out⟩
/-- x is no node. -/
theorem gather_off (hN : Nds W v t.ns) (hW : Ints .i64 W vw ways) (h1 : x ≠ -1) (h2 : ¬ t.has x) : Calls Try.prog 74 #[.agg #[.int .i64 t.root, v], .int .i64 x, .int .i64 u, vw] W (Gt t (n + 1) x u ways W) := by
  have e : gatherF t (n + 1) x u ways = ([], ways, false) := by unfold gatherF; rw [if_neg h1, if_pos (.inl h2)]
  unfold Gt
  rw [e]
  obtain ⟨a, cap, rfl, hl1, hl2⟩ := hN.len
  obtain ⟨a2, c2, rfl⟩ : ∃ a2 c2, vw = .slice a2 ways.length c2 := ⟨_, _, hW.choose_spec.choose_spec.1⟩
  have HW := Lib.hid (hW.below (Gr.alloc W (.cells #[.int .i64 t.root, .slice a t.ns.length cap] 24)).below)
  have HB := Lib.hid (Gr.alloc W (.cells #[.int .i64 t.root, .slice a t.ns.length cap] 24)).below
  have HT := Lib.hid (Tb.new W t.root (.slice a t.ns.length cap) 24)
  have h3 : (x == -1) = false := by simpa using h1
  unfold T.has at h2
  unfold maxLen at hl2
  clear hN hW e h1
  go_enter Try.func74, Try.ntmps74
  go_upto_region 1 with fail
  generalize W.alloc (.cells #[.int .i64 t.root, .slice a t.ns.length cap] 24) = w1 at HW HB HT ⊢
  obtain ⟨x0, x1, -, -⟩ := HT.out.all
  by_cases hx : x < 0
  · go_wp2
    exact bodyPost_ret (v := .tuple #[.slice none 0 0, .slice a2 ways.length c2, .bool false]) (by simp [results, Try.results74, go_sem]) rfl ⟨_, _, rfl, nil_ints _ _, HW.out, HB.out⟩
  · have hx2 : (t.ns.length : Int) ≤ x := by omega
    go_wp2
    exact bodyPost_ret (v := .tuple #[.slice none 0 0, .slice a2 ways.length c2, .bool false]) (by simp [results, Try.results74, go_sem]) rfl ⟨_, _, rfl, nil_ints _ _, HW.out, HB.out⟩
/-- x was come by. -/
theorem gather_met (hN : Nds W v t.ns) (hW : Ints .i64 W vw ways) (h1 : t.has x) (h2 : x ∈ ways) : Calls Try.prog 74 #[.agg #[.int .i64 t.root, v], .int .i64 x, .int .i64 u, vw] W (Gt t (n + 1) x u ways W) := by
  have e : gatherF t (n + 1) x u ways = ([], ways, false) := by unfold gatherF; rw [if_neg (has_ne h1), if_pos (.inr h2)]
  unfold Gt
  rw [e]
  obtain ⟨a, cap, rfl, hl1, hl2⟩ := hN.len
  obtain ⟨k, rfl, hk⟩ := has_nat h1
  obtain ⟨a2, c2, rfl⟩ : ∃ a2 c2, vw = .slice a2 ways.length c2 := ⟨_, _, hW.choose_spec.choose_spec.1⟩
  have HW := Lib.hid (hW.below (Gr.alloc W (.cells #[.int .i64 t.root, .slice a t.ns.length cap] 24)).below)
  have HB := Lib.hid (Gr.alloc W (.cells #[.int .i64 t.root, .slice a t.ns.length cap] 24)).below
  have HT := Lib.hid (Tb.new W t.root (.slice a t.ns.length cap) 24)
  have HI := Lib.hid h2
  have h3 : ((k : Int) == -1) = false := by rw [beq_eq_false_iff_ne]; omega
  have h4 : (k : Int) < t.ns.length := by omega
  unfold maxLen at hl2
  clear hN hW e h1 h2
  go_enter Try.func74, Try.ntmps74
  go_upto_region 1 with fail
  generalize W.alloc (.cells #[.int .i64 t.root, .slice a t.ns.length cap] 24) = w1 at HW HB HT ⊢
  obtain ⟨x0, x1, -, -⟩ := HT.out.all
  have HC := Lib.hid (rin_at (k : Int) HW.out)
  rw [decide_eq_true HI.out] at HC
  go_wp2_with fail
  refine HC.out.mono ?_
  rintro e' w2 ⟨rfl, rfl⟩
  go_wp2
  exact bodyPost_ret (v := .tuple #[.slice none 0 0, .slice a2 ways.length c2, .bool false]) (by simp [results, Try.results74, go_sem]) rfl ⟨_, _, rfl, nil_ints _ _, HW.out, HB.out⟩
end
end Go.Proofs.Ytgjacmkedgbneaa

namespace Go.Proofs.Ytgjacmkedgbneaa
open Go.RowKit Go.Sort Ky Wd Tn Tr
section
variable {W : World} {v vw : Value} {t : T} {x u : Int} {ways : List Int} {n : Nat}
theorem Ints.sl {k : IntKind} {w : World} {v : Value} {zs : List Int} (h : Ints k w v zs) : ∃ a c, v = .slice a zs.length c := ⟨_, _, h.choose_spec.choose_spec.1⟩
set_option maxHeartbeats 2000000 in
/-- x is not In, or its Up is another one. -/
theorem gather_bad {n' : Nat} (hN : Nds W v t.ns) (hW : Ints .i64 W vw ways) (h1 : t.has x) (h2 : x ∉ ways) (hb : (t.nd x).inn = false ∨ (t.nd x).u ≠ u) :
    Calls Try.prog 74 #[.agg #[.int .i64 t.root, v], .int .i64 x, .int .i64 u, vw] W (Gt t (n' + 1) x u ways W) := by
  have e : gatherF t (n' + 1) x u ways = ([], ways, false) := by unfold gatherF; rw [if_neg (has_ne h1), if_neg (by rintro (h | h); exact h h1; exact h2 h), if_pos hb]
  unfold Gt
  rw [e]
  clear e
  obtain ⟨k, rfl, hk⟩ := has_nat h1
  obtain ⟨nb, off, cap, rfl, hl1, hl2, -⟩ := hN.at hk
  obtain ⟨a2, c2, rfl⟩ := hW.sl
  have HN1 := Lib.hid (hN.below (Gr.alloc W (.cells #[.int .i64 t.root, .slice (some ⟨nb, off, none⟩) t.ns.length cap] 24)).below)
  have HW1 := Lib.hid (hW.below (Gr.alloc W (.cells #[.int .i64 t.root, .slice (some ⟨nb, off, none⟩) t.ns.length cap] 24)).below)
  have HB1 := Lib.hid (Gr.alloc W (.cells #[.int .i64 t.root, .slice (some ⟨nb, off, none⟩) t.ns.length cap] 24)).below
  have HT1 := Lib.hid (Tb.new W t.root (.slice (some ⟨nb, off, none⟩) t.ns.length cap) 24)
  have HS1 : Hid ((W.alloc (.cells #[.int .i64 t.root, .slice (some ⟨nb, off, none⟩) t.ns.length cap] 24)).heap.size = W.heap.size + 1) := Lib.hid (by simp)
  have HI := Lib.hid h2
  have h3 : ((k : Int) == -1) = false := by rw [beq_eq_false_iff_ne]; omega
  have h4 : (k : Int) < t.ns.length := by omega
  have HND : Hid (t.ns.getD k nE = t.nd k) := Lib.hid (by unfold T.nd; rw [Int.toNat_natCast])
  have HUV : Hid (U (t.nd k).v) := Lib.hid (U_nd hN hk)
  unfold maxLen at hl2
  clear hN hW h2
  obtain ⟨n, hn⟩ : ∃ n, t.nd k = n := ⟨_, rfl⟩
  rw [hn] at hb
  clear h1
  go_enter Try.func74, Try.ntmps74
  go_upto_region 1 with fail
  generalize W.alloc (.cells #[.int .i64 t.root, .slice (some ⟨nb, off, none⟩) t.ns.length cap] 24) = w1 at HN1 HW1 HB1 HT1 HS1 ⊢
  obtain ⟨x0, x1, -, -⟩ := HT1.out.all
  have HC := Lib.hid (rin_at (k : Int) HW1.out)
  rw [decide_eq_false HI.out] at HC
  go_wp2_with fail
  refine HC.out.mono ?_
  rintro e' w2 ⟨rfl, rfl⟩
  clear HC
  obtain ⟨m0, m1, m2, m3, m4, m5⟩ := HN1.out.nc hk
  rw [HND.out, hn] at m0 m1 m2 m3 m4 m5
  have HNF := Lib.hid (Nb.fresh w1 n)
  rw [HS1.out] at HNF
  have HN2 := Lib.hid (HN1.out.below (Gr.alloc w1 (.cells #[.bool n.inn, .bool n.red, .int .u64 n.v, .int .i64 n.l, .int .i64 n.r, .int .i64 n.u] 57)).below)
  have HW2 := Lib.hid (HW1.out.below (Gr.alloc w1 (.cells #[.bool n.inn, .bool n.red, .int .u64 n.v, .int .i64 n.l, .int .i64 n.r, .int .i64 n.u] 57)).below)
  have HT2 := Lib.hid (HT1.out.below (Gr.alloc w1 (.cells #[.bool n.inn, .bool n.red, .int .u64 n.v, .int .i64 n.l, .int .i64 n.r, .int .i64 n.u] 57)).below HT1.out.lt)
  have HB2 := Lib.hid (HB1.out.alloc HB1.out.size (.cells #[.bool n.inn, .bool n.red, .int .u64 n.v, .int .i64 n.l, .int .i64 n.r, .int .i64 n.u] 57))
  have HS2 : Hid ((w1.alloc (.cells #[.bool n.inn, .bool n.red, .int .u64 n.v, .int .i64 n.l, .int .i64 n.r, .int .i64 n.u] 57)).heap.size = W.heap.size + 2) := Lib.hid (by simp; have := HS1.out; omega)
  go_upto_region 6 with fail
  clear m0 m1 m2 m3 m4 m5 x0 x1 HN1 HW1 HT1 HB1
  generalize hq1 : w1.heap.size = q1 at HS1 ⊢
  have hq : q1 = W.heap.size + 1 := by rw [← hq1] at HS1; exact hq1 ▸ HS1.out
  subst hq
  generalize w1.alloc (.cells #[.bool n.inn, .bool n.red, .int .u64 n.v, .int .i64 n.l, .int .i64 n.r, .int .i64 n.u] 57) = w2 at HNF HN2 HW2 HT2 HB2 HS2 ⊢
  obtain ⟨n0, n1, n2, n3, n4, n5⟩ := HNF.out.six
  clear HUV HND hn
  by_cases hin : n.inn = false
  · rw [hin] at n0
    clear hb
    go_wp2
    go_ret3
    exact ⟨_, _, rfl, nil_ints _ _, HW2.out, HB2.out⟩
  · have hin' : n.inn = true := by simpa using hin
    have hu : (n.u == u) = false := by
      rcases hb with hb | hb
      · exact absurd hb hin
      · simpa using hb
    rw [hin'] at n0
    clear hb hin
    go_wp2
    go_ret3
    exact ⟨_, _, rfl, nil_ints _ _, HW2.out, HB2.out⟩
/-- What holds of the node, and of the tree, in all worlds behind. -/
def GtS (q : Nat) (r : Int) (sv : Value) (l rr : Int) (X : World) : Prop := X.cell? ⟨q, 0, none⟩ = some (.int .i64 r) ∧ X.cell? ⟨q, 1, none⟩ = some sv ∧ X.cell? ⟨q + 1, 3, none⟩ = some (.int .i64 l) ∧ X.cell? ⟨q + 1, 4, none⟩ = some (.int .i64 rr)
set_option maxHeartbeats 8000000 in
set_option maxRecDepth 100000 in
theorem gather_on {n' : Nat} (hlen : t.ns.length ≤ 64) (ih : ∀ {W : World} {v vw : Value} {x u : Int} {ways : List Int}, Nds W v t.ns → Ints .i64 W vw ways → Ways t ways → t.ns.length + 1 ≤ n' + ways.length → Calls Try.prog 74 #[.agg #[.int .i64 t.root, v], .int .i64 x, .int .i64 u, vw] W (Gt t n' x u ways W))
    (hN : Nds W v t.ns) (hW : Ints .i64 W vw ways) (hy : Ways t ways) (hf : t.ns.length + 1 ≤ n' + 1 + ways.length) (h1 : t.has x) (h2 : x ∉ ways) (h5 : (t.nd x).inn = true) (h6 : (t.nd x).u = u) :
    Calls Try.prog 74 #[.agg #[.int .i64 t.root, v], .int .i64 x, .int .i64 u, vw] W (Gt t (n' + 1) x u ways W) := by
  obtain ⟨g1, hg1⟩ : ∃ g1, gatherF t n' (t.nd x).l x (ways ++ [x]) = g1 := ⟨_, rfl⟩
  obtain ⟨g2, hg2⟩ : ∃ g2, gatherF t n' (t.nd x).r x g1.2.1 = g2 := ⟨_, rfl⟩
  obtain ⟨R, hR⟩ : ∃ R, gatherF t (n' + 1) x u ways = R := ⟨_, rfl⟩
  have HE : Hid (R = if g1.2.2 = false then ([], g1.2.1, false) else (g1.1 ++ x :: g2.1, g2.2.1, g2.2.2)) := Lib.hid (by
    rw [← hR, gatherF, if_neg (has_ne h1), if_neg (by rintro (h | h); exact h h1; exact h2 h), if_neg (by rw [h5, h6]; simp), hg1, hg2])
  have HY1 := Lib.hid (hy.snoc h1 h2)
  have HK1 : Hid (Ways t g1.2.1 ∧ g1.1.length + (ways ++ [x]).length ≤ g1.2.1.length ∧ ∀ i ∈ g1.1, t.has i) := Lib.hid (by
    have := gather_keeps t n' (t.nd x).l x (ways ++ [x]) HY1.out
    rw [hg1] at this
    exact this)
  have HK2 : Hid (Ways t g2.2.1 ∧ g2.1.length + g1.2.1.length ≤ g2.2.1.length ∧ ∀ i ∈ g2.1, t.has i) := Lib.hid (by
    have := gather_keeps t n' (t.nd x).r x g1.2.1 HK1.out.1
    rw [hg2] at this
    exact this)
  have HSZ : Hid (ways.length ≤ 64 ∧ g1.1.length ≤ 64 ∧ g2.1.length ≤ 64) := Lib.hid (by
    have a1 := hy.le
    have a2 := HK1.out.1.le
    have a3 := HK1.out.2.1
    have a4 := HK2.out.1.le
    have a5 := HK2.out.2.1
    omega)
  have HWX : Hid ((Lit.int .i64 x).wf = true) := Lib.hid (i64_wf (by have := h1; unfold T.has at this; omega))
  have HX1 := Lib.hid h1
  have HR1 : Hid (∀ {X : World} {v vw : Value}, Nds X v t.ns → Ints .i64 X vw (ways ++ [x]) → Calls Try.prog 74 #[.agg #[.int .i64 t.root, v], .int .i64 (t.nd x).l, .int .i64 x, vw] X fun e w' => ∃ vl vs, e = .returned (.tuple #[vl, vs, .bool g1.2.2]) ∧ Ints .i64 w' vl g1.1 ∧ Ints .i64 w' vs g1.2.1 ∧ Below X.heap.size X w') := Lib.hid (fun hN hW => by
    have := ih (x := (t.nd x).l) (u := x) hN hW HY1.out (by rw [List.length_append, List.length_singleton]; omega)
    unfold Gt at this
    rw [hg1] at this
    exact this)
  have HR2 : Hid (∀ {X : World} {v vw : Value}, Nds X v t.ns → Ints .i64 X vw g1.2.1 → Calls Try.prog 74 #[.agg #[.int .i64 t.root, v], .int .i64 (t.nd x).r, .int .i64 x, vw] X fun e w' => ∃ vl vs, e = .returned (.tuple #[vl, vs, .bool g2.2.2]) ∧ Ints .i64 w' vl g2.1 ∧ Ints .i64 w' vs g2.2.1 ∧ Below X.heap.size X w') := Lib.hid (fun hN hW => by
    have := ih (x := (t.nd x).r) (u := x) hN hW HK1.out.1 (by have := HK1.out.2.1; rw [List.length_append, List.length_singleton] at this; omega)
    unfold Gt at this
    rw [hg2] at this
    exact this)
  clear hg1 hg2 ih hy hf
  obtain ⟨k, rfl, hk⟩ := has_nat h1
  obtain ⟨nb, off, cap, rfl, hl1, hl2, -⟩ := hN.at hk
  obtain ⟨a2, c2, rfl⟩ := hW.sl
  have HN1 := Lib.hid (hN.below (Gr.alloc W (.cells #[.int .i64 t.root, .slice (some ⟨nb, off, none⟩) t.ns.length cap] 24)).below)
  have HW1 := Lib.hid (hW.below (Gr.alloc W (.cells #[.int .i64 t.root, .slice (some ⟨nb, off, none⟩) t.ns.length cap] 24)).below)
  have HB1 := Lib.hid (Gr.alloc W (.cells #[.int .i64 t.root, .slice (some ⟨nb, off, none⟩) t.ns.length cap] 24)).below
  have HT1 := Lib.hid (Tb.new W t.root (.slice (some ⟨nb, off, none⟩) t.ns.length cap) 24)
  have HS1 : Hid ((W.alloc (.cells #[.int .i64 t.root, .slice (some ⟨nb, off, none⟩) t.ns.length cap] 24)).heap.size = W.heap.size + 1) := Lib.hid (by simp)
  have HI := Lib.hid h2
  have h3 : ((k : Int) == -1) = false := by rw [beq_eq_false_iff_ne]; omega
  have h4 : (k : Int) < t.ns.length := by omega
  have HND : Hid (t.ns.getD k nE = t.nd k) := Lib.hid (by unfold T.nd; rw [Int.toNat_natCast])
  have HUV : Hid (U (t.nd k).v) := Lib.hid (U_nd hN hk)
  unfold maxLen at hl2
  clear hN hW h2
  obtain ⟨n, hn⟩ : ∃ n, t.nd k = n := ⟨_, rfl⟩
  rw [hn] at h5 h6 HR1 HR2
  have H5 := Lib.hid h5
  have H6 := Lib.hid h6
  clear h1 h5 h6
  unfold Gt
  rw [hR]
  clear hR
  go_enter Try.func74, Try.ntmps74
  go_upto_region 1 with fail
  generalize W.alloc (.cells #[.int .i64 t.root, .slice (some ⟨nb, off, none⟩) t.ns.length cap] 24) = w1 at HN1 HW1 HB1 HT1 HS1 ⊢
  obtain ⟨x0, x1, -, -⟩ := HT1.out.all
  have HC := Lib.hid (rin_at (k : Int) HW1.out)
  rw [decide_eq_false HI.out] at HC
  go_wp2_with fail
  refine HC.out.mono ?_
  rintro e' w2 ⟨rfl, rfl⟩
  clear HC
  obtain ⟨m0, m1, m2, m3, m4, m5⟩ := HN1.out.nc hk
  rw [HND.out, hn] at m0 m1 m2 m3 m4 m5
  have HNF := Lib.hid (Nb.fresh w1 n)
  rw [HS1.out] at HNF
  have HN2 := Lib.hid (HN1.out.below (Gr.alloc w1 (.cells #[.bool n.inn, .bool n.red, .int .u64 n.v, .int .i64 n.l, .int .i64 n.r, .int .i64 n.u] 57)).below)
  have HW2 := Lib.hid (HW1.out.below (Gr.alloc w1 (.cells #[.bool n.inn, .bool n.red, .int .u64 n.v, .int .i64 n.l, .int .i64 n.r, .int .i64 n.u] 57)).below)
  have HT2 := Lib.hid (HT1.out.below (Gr.alloc w1 (.cells #[.bool n.inn, .bool n.red, .int .u64 n.v, .int .i64 n.l, .int .i64 n.r, .int .i64 n.u] 57)).below HT1.out.lt)
  have HB2 := Lib.hid (HB1.out.alloc HB1.out.size (.cells #[.bool n.inn, .bool n.red, .int .u64 n.v, .int .i64 n.l, .int .i64 n.r, .int .i64 n.u] 57))
  have HS2 : Hid ((w1.alloc (.cells #[.bool n.inn, .bool n.red, .int .u64 n.v, .int .i64 n.l, .int .i64 n.r, .int .i64 n.u] 57)).heap.size = W.heap.size + 2) := Lib.hid (by simp; have := HS1.out; omega)
  go_upto_region 6 with fail
  clear m0 m1 m2 m3 m4 m5 x0 x1 HN1 HW1 HT1 HB1
  generalize hq1 : w1.heap.size = q1 at HS1 ⊢
  have hq : q1 = W.heap.size + 1 := by rw [← hq1] at HS1; exact hq1 ▸ HS1.out
  subst hq
  generalize w1.alloc (.cells #[.bool n.inn, .bool n.red, .int .u64 n.v, .int .i64 n.l, .int .i64 n.r, .int .i64 n.u] 57) = w2 at HNF HN2 HW2 HT2 HB2 HS2 ⊢
  obtain ⟨n0, n1, n2, n3, n4, n5⟩ := HNF.out.six
  rw [H5.out] at n0
  have hu : (n.u == u) = true := by simpa using H6.out
  have HGS : Hid (∀ X, Below (W.heap.size + 2) w2 X → GtS W.heap.size t.root (.slice (some ⟨nb, off, none⟩) t.ns.length cap) n.l n.r X) := Lib.hid (fun X hX => by
    have hT := (HT2.out.below hX (by omega)).all
    have hM := (HNF.out.below hX (by omega)).six
    exact ⟨hT.1, hT.2.1, hM.2.2.2.1, hM.2.2.2.2.1⟩)
  have HNS : Hid (∀ X, Below (W.heap.size + 2) w2 X → Nds X (.slice (some ⟨nb, off, none⟩) t.ns.length cap) t.ns ∧ Ints .i64 X (.slice a2 ways.length c2) ways) := Lib.hid (fun X hX => by
    have hX' : Below w2.heap.size w2 X := by rw [HS2.out]; exact hX
    exact ⟨HN2.out.below hX', HW2.out.below hX'⟩)
  have HBX : Hid (∀ X, Below (W.heap.size + 2) w2 X → Below W.heap.size W X) := Lib.hid (fun X hX => HB2.out.trans (hX.mono (by omega)))
  clear HUV HND hn HNF HN2 HW2 HT2 HB2 H5 H6
  go_upto_region 8 with fail
  clear n0 n1 n2 n3 n4 n5 hu
  have HLE : Hid (W.heap.size + 2 ≤ W.heap.size + 3) := Lib.hid (by omega)
  have HD : Hid (Below (W.heap.size + 2) w2 w2.drew) := Lib.hid (Below.refl _ _).drew
  have HSD : Hid (W.heap.size + 2 ≤ w2.drew.heap.size) := Lib.hid (by show W.heap.size + 2 ≤ w2.heap.size; have := HS2.out; omega)
  have hx1 := HGS.out _ HD.out
  have HAD : Hid (Below (W.heap.size + 2) w2 (w2.alloc (.cells #[.int .i64 k] 3)).drew) := Lib.hid ((Below.refl (W.heap.size + 2) w2).alloc (by rw [HS2.out]; exact Nat.le_refl _) _).drew
  have HAS : Hid (W.heap.size + 3 ≤ (w2.alloc (.cells #[.int .i64 k] 3)).drew.heap.size) := Lib.hid (by show W.heap.size + 3 ≤ (w2.alloc (.cells #[.int .i64 k] 3)).heap.size; have := HS2.out; simp; omega)
  unfold GtS at hx1
  have HG3 : Hid (∀ X, Below (W.heap.size + 2) w2 X → X.cell? ⟨W.heap.size, 0, none⟩ = some (.int .i64 t.root) ∧ X.cell? ⟨W.heap.size, 1, none⟩ = some (.slice (some ⟨nb, off, none⟩) t.ns.length cap) ∧ X.cell? ⟨W.heap.size + 1, 3, none⟩ = some (.int .i64 n.l)) := Lib.hid (fun X hX => ⟨(HGS.out X hX).1, (HGS.out X hX).2.1, (HGS.out X hX).2.2.1⟩)
  have HA3 : Hid (∀ w3, Below (W.heap.size + 2) w2.drew w3 → Below (W.heap.size + 2) w2 w3 ∧ W.heap.size + 2 ≤ w3.heap.size ∧ Below (W.heap.size + 2) w2 (w3.alloc (.cells #[.int .i64 k] 3)) ∧ W.heap.size + 2 ≤ (w3.alloc (.cells #[.int .i64 k] 3)).heap.size) := Lib.hid (fun w3 hb => by
    have h1 := HD.out.trans hb
    have h2 : W.heap.size + 2 ≤ w3.heap.size := Nat.le_trans (by rw [HS2.out]; exact Nat.le_refl _) h1.size
    exact ⟨h1, h2, h1.alloc h2 _, by simp; omega⟩)
  have HA4 : Hid (∀ w3, Below (W.heap.size + 3) (w2.alloc (.cells #[.int .i64 k] 3)).drew w3 → Below (W.heap.size + 2) w2 w3 ∧ W.heap.size + 3 ≤ w3.heap.size ∧ Ints .i64 w3 (.slice (some ⟨w2.heap.size, 0, none⟩) 1 1) [(k : Int)]) := Lib.hid (fun w3 hb => by
    have e0 : w2.heap.size + 1 = W.heap.size + 3 := by rw [HS2.out]
    have e1 : (w2.alloc (.cells #[.int .i64 k] 3)).drew.heap.size = W.heap.size + 3 := by show (w2.alloc (.cells #[.int .i64 k] 3)).heap.size = W.heap.size + 3; simp; omega
    have h1 := HAD.out.trans (hb.mono (by omega))
    have h2 : Below (w2.alloc (.cells #[.int .i64 k] 3)).drew.heap.size (w2.alloc (.cells #[.int .i64 k] 3)).drew w3 := by rw [e1]; exact hb
    exact ⟨h1, by have := h2.size; omega, (show Ints .i64 (w2.alloc (.cells #[.int .i64 k] 3)).drew (.slice (some ⟨w2.heap.size, 0, none⟩) 1 1) [(k : Int)] from one_int w2 3 k HWX.out).below h2⟩)
  have HWF : Hid (∀ z ∈ ways ++ [(k : Int)], (Lit.int .i64 z).wf = true) := Lib.hid (fun z hz => i64_wf (by have := HY1.out.2 z hz; unfold T.has at this; omega))
  go_region_held3 (fun X => X.cell? ⟨W.heap.size, 0, none⟩ = some (.int .i64 t.root) ∧ X.cell? ⟨W.heap.size, 1, none⟩ = some (.slice (some ⟨nb, off, none⟩) t.ns.length cap) ∧ X.cell? ⟨W.heap.size + 1, 3, none⟩ = some (.int .i64 n.l))
    (first
      | exact ⟨hx1.1, hx1.2.1, hx1.2.2.1⟩
      | (with_reducible exact HG3.out _ HAD.out)
      | (with_reducible exact HG3.out _ (HA3.out _ hb3).1)
      | (with_reducible exact HG3.out _ (HA3.out _ hb3).2.2.1)
      | (with_reducible exact HG3.out _ (HA4.out _ hc3).1)
      | (with_reducible exact HG3.out _ ((HA3.out _ hb3).2.2.1.trans hb4))
      | (with_reducible exact HG3.out _ ((HA4.out _ hc3).1.trans hb4))
      | (with_reducible exact HG3.out _ hB5)
      | go_keep)
    (first
      | (go_at_call 74; with_reducible refine (HR1.out (HNS.out _ hB4).1 (hO4.ints HWF.out)).mono ?_; rintro e' w5 ⟨vl5, vs5, rfl, hI5, hJ5, hb5⟩; have hB5 := hB4.trans (hb5.mono hS4))
      | (refine step_append_ints (k := .i64) (bytes := 8) rfl (.const (.slice none 0 0)) (.tmp 56) 77 rfl (W.heap.size + 2) 3 Try.underlying77 info_int (by decide) (.slice none 0 0) (.slice a2 ways.length c2) (by simp [Act.eval]) (by simp [Act.eval]) [] ways (Own.nil _ w2.drew _ _) (HNS.out _ HD.out).2 (by have := HSZ.out.1; simp only [List.length_nil]; omega) HSD.out ?_; intro v3 w3 hO3 hb3)
      | (refine step_append_ints (k := .i64) (bytes := 8) rfl (.const (.slice none 0 0)) (.tmp 56) 77 rfl (W.heap.size + 3) 3 Try.underlying77 info_int (by decide) (.slice none 0 0) (.slice a2 ways.length c2) (by simp [Act.eval]) (by simp [Act.eval]) [] ways (Own.nil _ (w2.alloc (.cells #[.int .i64 k] 3)).drew _ _) (HNS.out _ HAD.out).2 (by have := HSZ.out.1; simp only [List.length_nil]; omega) HAS.out ?_; intro v3 w3 hO3 hc3)
      | (refine step_append_ints (k := .i64) (bytes := 8) rfl (.tmp 57) (.tmp 59) 77 rfl (W.heap.size + 2) 3 Try.underlying77 info_int (by decide) v3 (.slice (some ⟨w3.heap.size, 0, none⟩) 1 1) (by simp [Act.eval]) (by simp [Act.eval]) ways [(k : Int)] (hO3.alloc _) (one_int w3 3 k HWX.out) (by have := HSZ.out.1; simp only [List.length_singleton]; omega) (HA3.out _ hb3).2.2.2 ?_; intro v4 w4 hO4 hb4; have hB4 := (HA3.out _ hb3).2.2.1.trans hb4; have hS4 := Nat.le_trans (HA3.out _ hb3).2.2.2 hb4.size)
      | (refine step_append_ints (k := .i64) (bytes := 8) rfl (.tmp 57) (.tmp 59) 77 rfl (W.heap.size + 3) 3 Try.underlying77 info_int (by decide) v3 (.slice (some ⟨w2.heap.size, 0, none⟩) 1 1) (by simp [Act.eval]) (by simp [Act.eval]) ways [(k : Int)] hO3 (HA4.out _ hc3).2.2 (by have := HSZ.out.1; simp only [List.length_singleton]; omega) (HA4.out _ hc3).2.1 ?_; intro v4 w4 hO4 hb5; have hb4 := hb5.mono (HLE.out); have hB4 := (HA4.out _ hc3).1.trans hb4; have hS4 := Nat.le_trans (Nat.le_trans HLE.out (HA4.out _ hc3).2.1) hb5.size; clear hb5))
  all_goals
    have HB5 := Lib.hid hB5
    have HI5 := Lib.hid (And.intro hI5 hJ5)
    have HS5 : Hid (W.heap.size + 2 ≤ w5.heap.size) := Lib.hid (Nat.le_trans hS4 hb5.size)
    clear hB5 hI5 hJ5 hS4 hb5 hB4 hb4 hO4 hO3 hx1 HR1 HG3 HA3 HA4 HAD HAS HD HSD HWF HLE
    obtain ⟨aw, cw, rfl⟩ := HI5.out.2.sl
    obtain ⟨al, cl, rfl⟩ := HI5.out.1.sl
    cases hok : g1.2.2 with
    | false =>
      have HR : Hid (R = ([], g1.2.1, false)) := Lib.hid (by rw [HE.out, if_pos hok])
      clear hok HE
      go_wp2
      go_ret3
      rw [HR.out]
      exact ⟨_, _, rfl, nil_ints _ _, HI5.out.2, HBX.out _ HB5.out⟩
    | true =>
      have HR : Hid (R = (g1.1 ++ [(k : Int)] ++ g2.1, g2.2.1, g2.2.2)) := Lib.hid (by rw [HE.out, if_neg (by rw [hok]; simp)]; simp)
      clear hok HE
      obtain ⟨x0, x1, -, x4⟩ := HGS.out _ HB5.out
      have HC := Lib.hid (HR2.out (HNS.out _ HB5.out).1 HI5.out.2)
      go_wp2_with fail
      refine HC.out.mono ?_
      rintro e' w6 ⟨vl6, vs6, rfl, hI6, hJ6, hb6⟩
      obtain ⟨ar, cr, rfl⟩ := hI6.sl
      obtain ⟨as1, cs, rfl⟩ := hJ6.sl
      have HB6 := Lib.hid (HB5.out.trans (hb6.mono HS5.out))
      have HIL := Lib.hid (HI5.out.1.below hb6)
      have HIR := Lib.hid hI6
      have HJ6 := Lib.hid hJ6
      have HS6 : Hid (W.heap.size + 2 ≤ w6.heap.size) := Lib.hid (Nat.le_trans HS5.out hb6.size)
      clear hI6 hJ6 hb6 HC x0 x1 x4 HI5 HB5
      have HWL : Hid (∀ z ∈ g1.1 ++ [(k : Int)] ++ g2.1, (Lit.int .i64 z).wf = true) := Lib.hid (fun z hz => i64_wf (by
        simp only [List.mem_append, List.mem_singleton] at hz
        have hh : t.has z := by
          rcases hz with (hz | rfl) | hz
          · exact HK1.out.2.2 z hz
          · exact HX1.out
          · exact HK2.out.2.2 z hz
        unfold T.has at hh
        omega))
      go_wp2_with (at_builtin; go_loud (first
        | (refine wpList_append_ints (k := .i64) (bytes := 8) rfl (.const (.slice none 0 0)) (.tmp 78) 77 rfl w6.heap.size 3 Try.underlying77 info_int (by decide) [] g1.1 (Own.nil _ w6 _ _) HIL.out (by have := HSZ.out; simp only [List.length_nil]; omega) (Nat.le_refl _) ?_; intro v7 w7 hO7 hb7)
        | (refine wpList_append_ints (k := .i64) (bytes := 8) rfl (.tmp 79) (.tmp 81) 77 rfl w6.heap.size 3 Try.underlying77 info_int (by decide) g1.1 [(k : Int)] (hO7.alloc _) (one_int w7 3 k HWX.out) (by have := HSZ.out; simp only [List.length_singleton]; omega) (Nat.le_trans hb7.size (by simp)) ?_; intro v8 w8 hO8 hb8)
        | (refine wpList_append_ints (k := .i64) (bytes := 8) rfl (.tmp 82) (.tmp 83) 77 rfl w6.heap.size 3 Try.underlying77 info_int (by decide) (g1.1 ++ [(k : Int)]) g2.1 hO8 (HIR.out.below ((hb7.alloc hb7.size _).trans hb8)) (by have := HSZ.out; simp only [List.length_append, List.length_singleton]; omega) ((hb7.alloc hb7.size (.cells #[.int .i64 k] 3)).trans hb8).size ?_; intro v9 w9 hO9 hb9)))
      all_goals
        have hb : RowKit.Below w6.heap.size w6 w9 := ((hb7.alloc hb7.size _).trans hb8).trans hb9
        go_ret3
        rw [HR.out]
        exact ⟨_, _, rfl, hO9.ints HWL.out, HJ6.out.below hb, HBX.out _ (HB6.out.trans (hb.mono HS6.out))⟩
end
theorem rgather_at {t : T} (hlen : t.ns.length ≤ 64) (n : Nat) : ∀ {W : World} {v vw : Value} {x u : Int} {ways : List Int}, Nds W v t.ns → Ints .i64 W vw ways → Ways t ways → t.ns.length + 1 ≤ n + ways.length →
    Calls Try.prog 74 #[.agg #[.int .i64 t.root, v], .int .i64 x, .int .i64 u, vw] W (Gt t n x u ways W) := by
  induction n with
  | zero =>
    intro W v vw x u ways _ _ hy hf
    have := hy.le
    omega
  | succ n ih =>
    intro W v vw x u ways hN hW hy hf
    by_cases h1 : x = -1
    · subst h1
      exact gather_none hN hW
    · by_cases h2 : t.has x
      · by_cases h3 : x ∈ ways
        · exact gather_met hN hW h2 h3
        · by_cases h4 : (t.nd x).inn = false ∨ (t.nd x).u ≠ u
          · exact gather_bad hN hW h2 h3 h4
          · have h5 : (t.nd x).inn = true := by
              cases hc : (t.nd x).inn with
              | true => rfl
              | false => exact absurd (.inl hc) h4
            have h6 : (t.nd x).u = u := Decidable.byContradiction fun hc => h4 (.inr hc)
            exact gather_on hlen ih hN hW hy hf h2 h3 h5 h6
      · exact gather_off hN hW h1 h2
end Go.Proofs.Ytgjacmkedgbneaa

namespace Go.Proofs.Ytgjacmkedgbneaa
open Go.RowKit Go.Sort Ky Wd Tn Tr

/-- What order tells. -/
def Od (t : T) (W : World) (e : Ending) (w' : World) : Prop :=
  (orderP t → ∃ v', e = .returned (.tuple #[v', .bool true]) ∧ Ints .i64 w' v' (gat t).1) ∧ (¬ orderP t → e = .returned (.tuple #[.slice none 0 0, .bool false])) ∧ Below W.heap.size W w'
theorem Od.no {t : T} {W w' : World} (h : ¬ orderP t) (hb : Below W.heap.size W w') : Od t W (.returned (.tuple #[.slice none 0 0, .bool false])) w' := ⟨fun h1 => absurd h1 h, fun _ => rfl, hb⟩
theorem N_ne {n : N} (h0 : n.inn = false) (h : n ≠ nE) : n.red = true ∨ n.v ≠ 0 ∨ n.l ≠ -1 ∨ n.r ≠ -1 ∨ n.u ≠ -1 := by
  refine Classical.byContradiction fun hc => h ?_
  rw [← N_eq]
  refine ⟨h0, ?_, ?_, ?_, ?_, ?_⟩
  · cases hr : n.red with
    | false => rfl
    | true => exact absurd (.inl hr) hc
  · exact Decidable.byContradiction fun h => hc (.inr (.inl h))
  · exact Decidable.byContradiction fun h => hc (.inr (.inr (.inl h)))
  · exact Decidable.byContradiction fun h => hc (.inr (.inr (.inr (.inl h))))
  · exact Decidable.byContradiction fun h => hc (.inr (.inr (.inr (.inr h))))

theorem rorder_long {W : World} {v : Value} {t : T} (hN : Nds W v t.ns) (hl : ¬ t.ns.length ≤ 64) : Calls Try.prog 46 #[.agg #[.int .i64 t.root, v]] W (Od t W) := by
  have HO : Hid (¬ orderP t) := Lib.hid (fun h => hl h.1)
  obtain ⟨a, cap, rfl, hl1, hl2⟩ := hN.len
  have HB := Lib.hid (Gr.alloc W (.cells #[.int .i64 t.root, .slice a t.ns.length cap] 24)).below
  have HT := Lib.hid (Tb.new W t.root (.slice a t.ns.length cap) 24)
  have h3 : (64 : Int) < t.ns.length := by omega
  unfold maxLen at hl2
  clear hN hl
  go_enter Try.func46, Try.ntmps46
  go_upto_region 1 with fail
  generalize W.alloc (.cells #[.int .i64 t.root, .slice a t.ns.length cap] 24) = w1 at HB HT ⊢
  obtain ⟨x0, x1, -, -⟩ := HT.out.all
  go_wp2
  go_ret2
  exact Od.no HO.out HB.out

set_option maxHeartbeats 4000000 in
set_option maxRecDepth 100000 in
theorem rorder_short {W : World} {v : Value} {t : T} (hN : Nds W v t.ns) (hl : t.ns.length ≤ 64) : Calls Try.prog 46 #[.agg #[.int .i64 t.root, v]] W (Od t W) := by
  have HOP : Hid (orderP t ↔ (∀ i : Nat, i < t.ns.length → (t.nd i).inn = true ∨ t.nd i = nE) ∧ (gat t).2.2 = true ∧ (innL t t.ns.length).length = (gat t).1.length) := Lib.hid ⟨fun h => h.2, fun h => ⟨hl, h⟩⟩
  obtain ⟨G, hG⟩ : ∃ G, gat t = G := ⟨_, rfl⟩
  have HOD : Hid (∀ (e : Ending) (w' : World), ((orderP t → ∃ v', e = .returned (.tuple #[v', .bool true]) ∧ Ints .i64 w' v' G.1) ∧ (¬ orderP t → e = .returned (.tuple #[.slice none 0 0, .bool false])) ∧ Below W.heap.size W w') → Od t W e w') := Lib.hid (fun e w' h => by unfold Od; rw [hG]; exact h)
  rw [hG] at HOP
  obtain ⟨a, cap, rfl, hl1, hl2⟩ := hN.len
  have HB := Lib.hid (Gr.alloc W (.cells #[.int .i64 t.root, .slice a t.ns.length cap] 24)).below
  have HT := Lib.hid (Tb.new W t.root (.slice a t.ns.length cap) 24)
  have HN1 := Lib.hid (hN.below HB.out)
  have HGL : Hid (G.1.length ≤ 64) := Lib.hid (by
    have h1 := gather_keeps t 65 t.root (-1) [] ⟨by simp, by simp⟩
    have h2 := h1.1.le
    have h3 := h1.2.1
    rw [show gatherF t 65 t.root (-1) [] = G from hG] at h2 h3
    simp only [List.length_nil] at h3
    omega)
  have HC : Hid (∀ (X : World) (v : Value), Nds X v t.ns → Calls Try.prog 74 #[.agg #[.int .i64 t.root, v], .int .i64 t.root, .int .i64 (-1), .slice none 0 0] X fun e w' => ∃ vl vs, e = .returned (.tuple #[vl, vs, .bool G.2.2]) ∧ Ints .i64 w' vl G.1 ∧ Below X.heap.size X w') := Lib.hid (fun X v hN => by
    have := rgather_at hl 65 (x := t.root) (u := -1) hN (nil_ints .i64 X) ⟨by simp, by simp⟩ (by simp; omega)
    refine this.mono ?_
    rintro e w' ⟨vl, vs, h1, h2, h3, h4⟩
    rw [show gatherF t 65 t.root (-1) [] = G from hG] at h1 h2
    exact ⟨vl, vs, h1, h2, h4⟩)
  have h3 : ¬ (64 : Int) < t.ns.length := by omega
  unfold maxLen at hl2
  clear hN hG
  go_enter Try.func46, Try.ntmps46
  go_upto_region 1 with fail
  generalize W.alloc (.cells #[.int .i64 t.root, .slice a t.ns.length cap] 24) = w1 at HB HT HN1 ⊢
  obtain ⟨x0, x1, -, -⟩ := HT.out.all
  go_wp2_with fail
  refine (HC.out _ _ HN1.out).mono ?_
  rintro e' w2 ⟨vl, vs, rfl, hI, hb⟩
  obtain ⟨al, cl, rfl⟩ := hI.sl
  have HI2 := Lib.hid hI
  have HN2 := Lib.hid (HN1.out.below hb)
  have HT2 := Lib.hid (HT.out.below hb HT.out.lt)
  have HB2 := Lib.hid (HB.out.trans (hb.mono HB.out.size))
  clear HC hI hb HN1 HT HB x0 x1
  go_wp2_with fail
  go_loopw [7, 8] (fun m i wr => ∃ j : Nat, j ≤ t.ns.length ∧ i = .int .i64 j ∧ m = .int .i64 (innL t j).length ∧ Hid ((∀ i : Nat, i < j → (t.nd i).inn = true ∨ t.nd i = nE) ∧ Gr w2 wr)) (fun _ i _ => t.ns.length - (intOf i).toNat)
  case atStart => exact ⟨0, by omega, rfl, by simp [innL], Lib.hid ⟨fun i hi => absurd hi (Nat.not_lt_zero _), Gr.refl _⟩⟩
  case round =>
    obtain ⟨j, hj, rfl, rfl, HJ⟩ := hrel
    have HTR := Lib.hid (HT2.out.below HJ.out.2.below HT2.out.lt)
    have HNR := Lib.hid (HN2.out.below HJ.out.2.below)
    have HML := Lib.hid (innL_le t j)
    by_cases hlt : j < t.ns.length
    · obtain ⟨nb, off, cap', he, -, -, -⟩ := HNR.out.at hlt
      simp only [Value.slice.injEq] at he
      obtain ⟨rfl, -, rfl⟩ := he
      obtain ⟨x0, x1, -, -⟩ := HTR.out.all
      obtain ⟨m0, m1, m2, m3, m4, m5⟩ := HNR.out.nc hlt
      have HND : Hid (t.ns.getD j nE = t.nd j) := Lib.hid (by unfold T.nd; rw [Int.toNat_natCast])
      rw [HND.out] at m0 m1 m2 m3 m4 m5
      have HIN := Lib.hid (innL_succ t j)
      have hj1 : (j : Int) < t.ns.length := by omega
      by_cases hin : (t.nd j).inn = true
      · rw [hin] at m0
        rw [hin, if_pos rfl] at HIN
        have HF : Hid (((innL t j).length : Int) + 1 = (innL t (j + 1)).length) := Lib.hid (by rw [HIN.out]; simp)
        have HA : Hid (∀ i : Nat, i < j + 1 → (t.nd i).inn = true ∨ t.nd i = nE) := Lib.hid (fun i hi => by
          rcases (show i < j ∨ i = j by omega) with h | rfl
          · exact HJ.out.1 i h
          · exact .inl hin)
        have hsm : (innL t j).length ≤ 64 := by have := HML.out; omega
        clear hin HIN m1 m2 m3 m4 m5
        go_wp2
        go_round
        case rel => exact ⟨j + 1, by omega, by go_num, by rw [← HF.out], Lib.hid ⟨HA.out, HJ.out.2⟩⟩
        case measure => simp [intOf]; omega
      · have hin0 : (t.nd j).inn = false := by simpa using hin
        rw [hin0] at m0
        rw [hin0, if_neg (by simp)] at HIN
        have HEM := Lib.hid (rEmpty_at wr.drew)
        have HCC : Hid (∀ X, Gr wr.drew X → Tb X W.heap.size t.root (.slice (some ⟨nb, off, none⟩) t.ns.length cap) 24 ∧ Nc X nb (off + j * 6) (t.nd j)) := Lib.hid (fun X hX => by
          have hg := (Gr.drew wr 1).trans hX
          have := (HNR.out.below hg.below).nc hlt
          rw [HND.out] at this
          exact ⟨HTR.out.below hg.below HTR.out.lt, this⟩)
        have HCD : Hid (∀ X, Gr wr.drew X → X.cell? ⟨W.heap.size, 1, none⟩ = some (.slice (some ⟨nb, off, none⟩) t.ns.length cap)) := Lib.hid (fun X hX => (HCC.out X hX).1.all.2.1)
        by_cases hne : t.nd j = nE
        · rw [hne] at m1 m2 m3 m4 m5 HCC
          have HA : Hid (∀ i : Nat, i < j + 1 → (t.nd i).inn = true ∨ t.nd i = nE) := Lib.hid (fun i hi => by
            rcases (show i < j ∨ i = j by omega) with h | rfl
            · exact HJ.out.1 i h
            · exact .inr hne)
          have HCX : Hid (∀ X, Gr wr.drew X → Nc X nb (off + j * 6) nE) := Lib.hid (fun X hX => (HCC.out X hX).2)
          simp only [nE] at m1 m2 m3 m4 m5
          clear hne hin hin0 HND HCC
          go_wp2_with fail
          go_region_law (first
            | (go_simp; go_at_call 38; refine HEM.out.mono ?_; rintro e' w3 ⟨rfl, hg3⟩; have z1 := HCD.out _ hg3; obtain ⟨p0, p1, p2, p3, p4, p5⟩ := HCX.out _ hg3; simp only [nE] at p0 p1 p2 p3 p4 p5))
          all_goals
            have HG3 : Hid (Gr w2 w3) := Lib.hid (HJ.out.2.trans ((Gr.drew wr 1).trans hg3))
            clear m0 m1 m2 m3 m4 m5 x0 x1 hg3
            go_wp2
            go_round
            case rel => exact ⟨j + 1, by omega, by go_num, by rw [HIN.out], Lib.hid ⟨HA.out, HG3.out⟩⟩
            case measure => simp [intOf]; omega
        · have HNO : Hid (¬ orderP t) := Lib.hid (fun h => by
            rcases (HOP.out.1 h).1 j hlt with h | h
            · exact hin h
            · exact hne h)
          have hw := N_ne hin0 hne
          have HCX : Hid (∀ X, Gr wr.drew X → Nc X nb (off + j * 6) (t.nd j)) := Lib.hid (fun X hX => (HCC.out X hX).2)
          obtain ⟨n, hn⟩ : ∃ n, t.nd j = n := ⟨_, rfl⟩
          rw [hn] at m1 m2 m3 m4 m5 HCX hw hin0
          have HI0 := Lib.hid hin0
          clear hne hin hin0 HND HCC hn HIN
          rcases hw with hw | hw | hw | hw | hw
          all_goals
            first
              | rw [hw] at m1
              | have hx := (beq_eq_false_iff_ne (a := n.v) (b := 0)).2 hw
              | have hx := (beq_eq_false_iff_ne (a := n.l) (b := -1)).2 hw
              | have hx := (beq_eq_false_iff_ne (a := n.r) (b := -1)).2 hw
              | have hx := (beq_eq_false_iff_ne (a := n.u) (b := -1)).2 hw
            go_wp2_with fail
            go_region_law (first
              | (go_simp; go_at_call 38; refine HEM.out.mono ?_; rintro e' w3 ⟨rfl, hg3⟩; have z1 := HCD.out _ hg3; obtain ⟨p0, p1, p2, p3, p4, p5⟩ := HCX.out _ hg3; rw [HI0.out] at p0))
            all_goals
              have HG3 : Hid (Gr w2 w3) := Lib.hid (HJ.out.2.trans ((Gr.drew wr 1).trans hg3))
              clear m0 m1 m2 m3 m4 m5 x0 x1 hg3
              go_wp2
              go_ret2
              exact Od.no HNO.out (HB2.out.trans (HG3.out.below.mono HB2.out.size))
    · obtain rfl : j = t.ns.length := by omega
      obtain ⟨x0, x1, -, -⟩ := HTR.out.all
      have hml := HML.out
      have HBF := Lib.hid (HB2.out.trans (HJ.out.2.below.mono HB2.out.size))
      have HIF := Lib.hid (HI2.out.below HJ.out.2.below)
      have HGL' := HGL.out
      cases hok : G.2.2 with
      | false =>
        have HNO : Hid (¬ orderP t) := Lib.hid (fun h => by have := (HOP.out.1 h).2.1; rw [hok] at this; cases this)
        clear hok
        go_wp2
        go_ret2
        exact Od.no HNO.out HBF.out
      | true =>
        by_cases hc : (innL t t.ns.length).length = G.1.length
        · have HYES : Hid (orderP t) := Lib.hid (HOP.out.2 ⟨HJ.out.1, hok, hc⟩)
          have hcc : (((innL t t.ns.length).length : Int) == (G.1.length : Int)) = true := by rw [beq_iff_eq]; omega
          clear hok hc
          go_wp2
          go_ret2
          exact HOD.out _ _ ⟨fun _ => ⟨_, rfl, HIF.out⟩, fun h => absurd HYES.out h, HBF.out⟩
        · have HNO : Hid (¬ orderP t) := Lib.hid (fun h => hc (HOP.out.1 h).2.2)
          have hcc : (((innL t t.ns.length).length : Int) == (G.1.length : Int)) = false := by rw [beq_eq_false_iff_ne]; omega
          clear hok hc
          go_wp2
          go_ret2
          exact Od.no HNO.out HBF.out
theorem rorder_at {W : World} {v : Value} {t : T} (hN : Nds W v t.ns) : Calls Try.prog 46 #[.agg #[.int .i64 t.root, v]] W (Od t W) := by
  by_cases hl : t.ns.length ≤ 64
  · exact rorder_short hN hl
  · exact rorder_long hN hl
end Go.Proofs.Ytgjacmkedgbneaa

namespace Go.Proofs.Ytgjacmkedgbneaa
open Go.RowKit Go.Sort Ky Wd Tn Tr

theorem Tr.Sub.keys {t : T} : {b : B} → {u : Int} → Sub t b u → b.keys = b.ids.map fun i => ((t.nd i).v, i)
  | .L, _, _ => rfl
  | .N i c v k, u, h => by
    simp only [B.keys, B.ids, List.map_append, List.map_cons]
    rw [Tr.Sub.keys h.2.2.1, Tr.Sub.keys h.2.2.2, h.2.1]
/-- A tree is whole, or not. -/
theorem whole_cases (t : T) : (orderP t ∧ ∃ b, Whole t b ∧ (gat t).1 = b.ids) ∨ (¬ orderP t ∧ ¬ wholeP t) := by
  by_cases h : orderP t
  · obtain ⟨b, hb, he⟩ := h.whole
    exact .inl ⟨h, b, hb, he.symm⟩
  · exact .inr ⟨h, fun hw => by obtain ⟨b, hb⟩ := (whole_iff t).1 hw; exact h hb.order.1⟩
theorem isWalk_cases {t : T} {l : List K} (h : IsWalk t l) : (orderP t ∧ ∃ b, Whole t b ∧ (gat t).1 = b.ids ∧ l = b.keys) ∨ (¬ orderP t ∧ l = []) := by
  rcases h with ⟨b, hb, rfl⟩ | ⟨hn, rfl⟩
  · exact .inl ⟨hb.order.1, b, hb, hb.order.2, rfl⟩
  · refine .inr ⟨fun ho => hn ?_, rfl⟩
    obtain ⟨b, hb, -⟩ := ho.whole
    exact (whole_iff t).2 ⟨b, hb⟩
theorem Ints.at {k : IntKind} {w : World} {v : Value} {zs : List Int} (h : Ints k w v zs) {j : Nat} (hj : j < zs.length) : ∃ b off cap, v = .slice (some ⟨b, off, none⟩) zs.length cap ∧ ∀ i, i < zs.length → w.cell? ⟨b, off + i, none⟩ = some (.int k (zs.getD i 0)) := by
  rcases h.parts with ⟨rfl, -⟩ | ⟨-, -, b, off, cap, rfl, -, hc⟩
  · simp at hj
  · exact ⟨b, off, cap, rfl, hc⟩
theorem Ints.cells {k : IntKind} {w : World} {b off n cap : Nat} {zs : List Int} (h : Ints k w (.slice (some ⟨b, off, none⟩) n cap) zs) {j : Nat} (hj : j < zs.length) : w.cell? ⟨b, off + j, none⟩ = some (.int k (zs.getD j 0)) := by
  obtain ⟨b', off', cap', he, hc⟩ := h.at hj
  simp only [Value.slice.injEq, Option.some.injEq, Addr.mk.injEq] at he
  obtain ⟨⟨rfl, rfl, -⟩, -, rfl⟩ := he
  exact hc j hj
theorem Nds.vc {w : World} {nb off n cap : Nat} {t : T} (h : Nds w (.slice (some ⟨nb, off, none⟩) n cap) t.ns) {k : Nat} (hk : k < t.ns.length) : w.cell? ⟨nb, off + k * 6 + 2, none⟩ = some (.int .u64 (t.nd k).v) := by
  have := (h.nc hk).2.2.1
  unfold T.nd
  rw [Int.toNat_natCast]
  exact this

set_option maxHeartbeats 4000000 in
set_option maxRecDepth 100000 in
theorem rWalk_at {W : World} {v : Value} {t : T} (hN : Nds W v t.ns) {l : List K} (hl : IsWalk t l) :
    Calls Try.prog 22 #[tv t v] W fun e w' => (∃ vs, e = .returned vs ∧ Keys w' vs l) ∧ Below W.heap.size W w' := by
  have HB := Lib.hid (Gr.alloc W (.cells #[.int .i64 t.root, v] 24)).below
  have HT := Lib.hid (Tb.new W t.root v 24)
  have HN1 := Lib.hid (hN.below HB.out)
  have HC := Lib.hid (rorder_at HN1.out)
  obtain ⟨a, cap, rfl, hl1, hl2⟩ := hN.len
  unfold tv
  unfold maxLen at hl2
  rcases isWalk_cases hl with ⟨ho, b, hb, hg, rfl⟩ | ⟨ho, rfl⟩
  · have HO := Lib.hid ho
    have HG := Lib.hid hg
    have HWB := Lib.hid hb
    have HKI : Hid (∀ x ∈ b.keys, Kin x) := Lib.hid (Sub.keyU hN.us hb.len hb.sub)
    have HKS := Lib.hid hb.sub.keys
    have HSZ : Hid (b.ids.length ≤ 64) := Lib.hid (by rw [B.ids_len]; exact hb.size)
    have HAS : Hid (∀ i ∈ b.ids, t.has i) := Lib.hid (fun i hi => (hb.sub.has i hi).1)
    clear hN hl ho hb hg
    go_enter Try.func22, Try.ntmps22
    go_upto_region 1 with fail
    generalize W.alloc (.cells #[.int .i64 t.root, .slice a t.ns.length cap] 24) = w1 at HB HT HN1 HC ⊢
    obtain ⟨x0, x1, -, -⟩ := HT.out.all
    go_wp2_with fail
    refine HC.out.mono ?_
    rintro e' w2 ⟨hy, -, hb⟩
    obtain ⟨v2, rfl, hI⟩ := hy HO.out
    rw [HG.out] at hI
    obtain ⟨a2, c2, rfl⟩ := hI.sl
    have HI2 := Lib.hid hI
    have HN2 := Lib.hid (HN1.out.below hb)
    have HT2 := Lib.hid (HT.out.below hb HT.out.lt)
    have HB2 := Lib.hid (HB.out.trans (hb.mono HB.out.size))
    clear HC hy hI hb HN1 HT HB x0 x1
    go_wp2_with fail
    go_loopw [5, 6] (fun o' i wr => ∃ (j : Nat) (o : Value), j ≤ b.ids.length ∧ i = .int .i64 j ∧ o = o' ∧ Hid (OwnK wr w2.heap.size 27 o (b.keys.take j) ∧ Below w2.heap.size w2 wr)) (fun _ i _ => b.ids.length - (intOf i).toNat)
    case atStart => exact ⟨0, _, by omega, rfl, rfl, Lib.hid ⟨OwnK.nil _ _ _, Below.refl _ _⟩⟩
    case round =>
      obtain ⟨j, o, hj, rfl, ho, HJ⟩ := hrel
      subst ho
      by_cases hlt : j < b.ids.length
      · obtain ⟨lb, loff, lcap, he, -⟩ := HI2.out.at hlt
        simp only [Value.slice.injEq] at he
        obtain ⟨rfl, -, rfl⟩ := he
        obtain ⟨i, hi⟩ : ∃ i, b.ids.getD j 0 = i := ⟨_, rfl⟩
        have him : i ∈ b.ids := by rw [← hi]; simp [List.getD, hlt]
        obtain ⟨k, rfl, hk⟩ := has_nat (HAS.out i him)
        obtain ⟨nb, off, cap', he, -, -, -⟩ := HN2.out.at hk
        simp only [Value.slice.injEq] at he
        obtain ⟨rfl, -, rfl⟩ := he
        have HE : Hid (b.keys.take j ++ [((t.nd k).v, (k : Int))] = b.keys.take (j + 1)) := Lib.hid (by
          have hkl : j < b.keys.length := by rw [← B.ids_len]; exact hlt
          rw [List.take_succ_eq_append_getElem hkl]
          congr 1
          have h2 : b.keys[j] = ((t.nd (b.ids[j])).v, b.ids[j]) := by
            have h3 : b.keys[j]? = some ((t.nd (b.ids[j])).v, b.ids[j]) := by
              rw [HKS.out, List.getElem?_map, List.getElem?_eq_getElem hlt]
              rfl
            rw [List.getElem?_eq_getElem hkl] at h3
            exact Option.some.inj h3
          have h4 : b.ids[j] = (k : Int) := by rw [← hi]; simp [List.getD, hlt]
          rw [h2, h4])
        have HKN : Hid (Kin ((t.nd k).v, (k : Int))) := Lib.hid (HKI.out _ (by
          have : ((t.nd k).v, (k : Int)) ∈ b.keys.take (j + 1) := by rw [← HE.out]; simp
          exact List.mem_of_mem_take this))
        obtain ⟨vk, hvk⟩ : ∃ vk, (t.nd k).v = vk := ⟨_, rfl⟩
        rw [hvk] at HE HKN
        have HGS : Hid (∀ X, Below w2.heap.size w2 X → X.cell? ⟨W.heap.size, 1, none⟩ = some (.slice (some ⟨nb, off, none⟩) t.ns.length cap) ∧ X.cell? ⟨lb, loff + j, none⟩ = some (.int .i64 k) ∧ X.cell? ⟨nb, off + k * 6 + 2, none⟩ = some (.int .u64 vk)) := Lib.hid (fun X hX => by
          have h1 := (HI2.out.below hX).cells hlt
          rw [hi] at h1
          have h2 := (HN2.out.below hX).vc hk
          rw [hvk] at h2
          exact ⟨(HT2.out.below hX HT2.out.lt).all.2.1, h1, h2⟩)
        have hx1 := HGS.out wr HJ.out.2
        have hjl : j ≤ 64 := by have := HSZ.out; omega
        have hj1 : (j : Int) < b.ids.length := by omega
        have hkk : (k : Int) < t.ns.length := by omega
        have HD : Hid (Below w2.heap.size w2 wr.drew) := Lib.hid HJ.out.2.drew
        have HAD : Hid (Below w2.heap.size w2 (wr.alloc (.cells #[.int .u64 vk, .int .i64 k] 27)).drew) := Lib.hid (HJ.out.2.alloc HJ.out.2.size _).drew
        have HSA : Hid (w2.heap.size ≤ (wr.alloc (.cells #[.int .u64 vk, .int .i64 k] 27)).drew.heap.size) := Lib.hid HAD.out.size
        have HON : Hid (OwnK (wr.alloc (.cells #[.int .u64 vk, .int .i64 k] 27)).drew w2.heap.size 27 o (b.keys.take j)) := Lib.hid (HJ.out.1.alloc _).drew
        have HKY : Hid (Keys (wr.alloc (.cells #[.int .u64 vk, .int .i64 k] 27)).drew (.slice (some ⟨wr.heap.size, 0, none⟩) 1 1) [(vk, (k : Int))]) := Lib.hid (one_new wr (vk, (k : Int)) HKN.out)
        clear hi him hvk
        go_wp2_with fail
        go_region_held3 (fun X => X.cell? ⟨W.heap.size, 1, none⟩ = some (.slice (some ⟨nb, off, none⟩) t.ns.length cap) ∧ X.cell? ⟨lb, loff + j, none⟩ = some (.int .i64 k) ∧ X.cell? ⟨nb, off + k * 6 + 2, none⟩ = some (.int .u64 vk))
          (first
            | exact hx1
            | (with_reducible exact HGS.out _ HD.out)
            | (with_reducible exact HGS.out _ HAD.out)
            | (with_reducible exact HGS.out _ (HAD.out.trans hb3))
            | go_keep)
          (first
            | (refine step_append_keys rfl (.tmp 20) (.tmp 35) 38 rfl w2.heap.size 27 Try.underlying38 info_key (by decide) o (.slice (some ⟨wr.heap.size, 0, none⟩) 1 1) (by simp [Act.eval]) (by simp [Act.eval]) (b.keys.take j) [(vk, (k : Int))] HON.out HKY.out (by simp only [List.length_take, List.length_cons, List.length_nil]; omega) HSA.out ?_; intro v3 w3 hO3 hb3))
        all_goals
          rw [HE.out] at hO3
          have HF := Lib.hid (And.intro hO3 (HAD.out.trans hb3))
          clear hO3 hb3 hx1 HGS
          go_wp2
          go_round
          case rel => exact ⟨j + 1, _, by omega, by go_num, rfl, HF⟩
          case measure => simp [intOf]; omega
      · obtain rfl : j = b.ids.length := by omega
        have HF : Hid (OwnK wr w2.heap.size 27 o b.keys) := Lib.hid (by
          have := HJ.out.1
          rw [B.ids_len, List.take_length] at this
          exact this)
        go_wp2
        go_ret
        exact ⟨⟨o, rfl, HF.out.keys HKI.out⟩, HB2.out.trans (HJ.out.2.mono HB2.out.size)⟩
  · have HO := Lib.hid ho
    clear hN hl ho
    go_enter Try.func22, Try.ntmps22
    go_upto_region 1 with fail
    generalize W.alloc (.cells #[.int .i64 t.root, .slice a t.ns.length cap] 24) = w1 at HB HT HN1 HC ⊢
    obtain ⟨x0, x1, -, -⟩ := HT.out.all
    go_wp2_with fail
    refine HC.out.mono ?_
    rintro e' w2 ⟨-, hy, hb⟩
    rw [hy HO.out]
    have HB2 := Lib.hid (HB.out.trans (hb.mono HB.out.size))
    clear HC hy hb HN1 HT HB x0 x1
    go_wp2
    go_ret
    exact ⟨⟨.slice none 0 0, rfl, nil_keys _⟩, HB2.out⟩

theorem rFirst_at {W : World} {v : Value} {t : T} (hN : Nds W v t.ns) {l : List K} (hl : IsWalk t l) :
    Calls Try.prog 17 #[tv t v] W fun e w' => e = .returned (.tuple #[.agg #[.int .u64 (l.headD (0, 0)).1, .int .i64 (l.headD (0, 0)).2], .bool (!l.isEmpty)]) ∧ Below W.heap.size W w' := by
  have HB1 : Hid (Below W.heap.size W (W.alloc (.cells #[.int .i64 t.root, v] 24))) := Lib.hid ((Below.refl _ _).alloc (Nat.le_refl _) _)
  have HB2 := Lib.hid (HB1.out.alloc HB1.out.size (.cells #[.int .u64 0, .int .i64 0] 27))
  have HWK := Lib.hid (rWalk_at (hN.below HB2.out) hl)
  have HKB : Hid (Kb ((W.alloc (.cells #[.int .i64 t.root, v] 24)).alloc (.cells #[.int .u64 0, .int .i64 0] 27)) (W.heap.size + 1) (0, 0)) := Lib.hid (by
    have := Kb.new (W.alloc (.cells #[.int .i64 t.root, v] 24)) (0, 0)
    rw [show (W.alloc (.cells #[.int .i64 t.root, v] 24)).heap.size = W.heap.size + 1 by simp] at this
    exact this)
  obtain ⟨a, cap, rfl, hc1, hc2⟩ := hN.len
  unfold tv at HWK ⊢
  clear hN hl
  cases l with
  | nil =>
    go_enter Try.func17, Try.ntmps17
    go_wp2_with fail
    refine HWK.out.mono ?_
    rintro e' w3 ⟨⟨vs, rfl, hK⟩, hB3⟩
    rcases hK.parts with ⟨-, a3, cap3, rfl⟩ | ⟨h0, _⟩
    · obtain ⟨g0, g1, g2, g3, g4⟩ := (HKB.out.below hB3 HKB.out.lt).all
      have HF := Lib.hid ((HB2.out.trans (hB3.mono HB2.out.size)))
      have HKS := Lib.hid ((HKB.out.below hB3 HKB.out.lt).store (0, 0)).all
      have HFS := Lib.hid ((HF.out.setCell (p := ⟨W.heap.size + 1, 0, none⟩) (by show W.heap.size ≤ W.heap.size + 1; omega) (.int .u64 0)).setCell (p := ⟨W.heap.size + 1, 1, none⟩) (by show W.heap.size ≤ W.heap.size + 1; omega) (.int .i64 0))
      clear HWK hK hB3 HKB
      go_wp2
      obtain ⟨s0, s1, -⟩ := HKS.out
      exact bodyPost_ret (v := .tuple #[.agg #[.int .u64 0, .int .i64 0], .bool false]) (by simp [results, Try.results17, go_sem, s0, s1]) rfl ⟨rfl, HFS.out⟩
    · simp at h0
  | cons x l =>
    go_enter Try.func17, Try.ntmps17
    go_wp2_with fail
    refine HWK.out.mono ?_
    rintro e' w3 ⟨⟨vs, rfl, hK⟩, hB3⟩
    rcases hK.parts with ⟨h0, _⟩ | ⟨h0, b3, off3, cap3, rfl, hcap3, -, hc⟩
    · cases h0
    · obtain ⟨g0, g1, g2, g3, g4⟩ := (HKB.out.below hB3 HKB.out.lt).all
      obtain ⟨x0, x1⟩ := hc 0 h0
      rw [Nat.zero_mul, Nat.add_zero] at x0 x1
      change w3.cell? _ = some (.int .u64 x.1) at x0
      change w3.cell? _ = some (.int .i64 x.2) at x1
      have hne : (((x :: l).length : Int) == 0) = false := by rw [beq_eq_false_iff_ne]; simp; omega
      have HF := Lib.hid ((HB2.out.trans (hB3.mono HB2.out.size)))
      have HKS := Lib.hid ((HKB.out.below hB3 HKB.out.lt).store x).all
      have HFS := Lib.hid ((HF.out.setCell (p := ⟨W.heap.size + 1, 0, none⟩) (by show W.heap.size ≤ W.heap.size + 1; omega) (.int .u64 x.1)).setCell (p := ⟨W.heap.size + 1, 1, none⟩) (by show W.heap.size ≤ W.heap.size + 1; omega) (.int .i64 x.2))
      generalize (x :: l).length = ln at *
      unfold maxLen at hcap3
      clear HWK hK hB3 HKB hc
      go_wp2
      obtain ⟨s0, s1, -⟩ := HKS.out
      exact bodyPost_ret (v := .tuple #[.agg #[.int .u64 x.1, .int .i64 x.2], .bool true]) (by simp [results, Try.results17, go_sem, s0, s1]) rfl ⟨rfl, HFS.out⟩

set_option maxHeartbeats 4000000 in
set_option maxRecDepth 100000 in
theorem rheight_at {v : Value} {t : T} (b : B) : ∀ (u : Int) (W : World), Nds W v t.ns → Sub t b u → b.high ≤ 1000 →
    Calls Try.prog 53 #[.agg #[.int .i64 t.root, v], .int .i64 b.rid] W fun e w' => e = .returned (.int .i64 b.high) ∧ Gr W w' := by
  induction b with
  | L =>
    intro u W hN hS hh
    change Calls Try.prog 53 #[.agg #[.int .i64 t.root, v], .int .i64 (-1)] W fun e w' => e = .returned (.int .i64 0) ∧ Gr W w'
    obtain ⟨a, cap, rfl, -, -⟩ := hN.len
    clear hN hS hh
    go_enter Try.func53, Try.ntmps53
    go_wp2_with fail
    go_ret
    exact ⟨rfl, Gr.alloc _ _⟩
  | N i c v' k ih =>
    intro u W hN hS hh
    obtain ⟨hi, hnd, hL, hR⟩ := hS
    obtain ⟨j, rfl, hj⟩ := has_nat hi
    obtain ⟨nb, off, cap, rfl, hc1, hc2, -⟩ := hN.at hj
    have HT := Lib.hid (Tb.new W t.root (.slice (some ⟨nb, off, none⟩) t.ns.length cap) 24)
    have HG0 : Hid (Gr W (W.alloc (.cells #[.int .i64 t.root, .slice (some ⟨nb, off, none⟩) t.ns.length cap] 24))) := Lib.hid (Gr.alloc _ _)
    have hhl : (k false).high ≤ 1000 ∧ (k true).high ≤ 1000 := by unfold B.high at hh; omega
    have HN := Lib.hid hN
    have HI1 : Hid (∀ X, Gr W X → Calls Try.prog 53 #[.agg #[.int .i64 t.root, .slice (some ⟨nb, off, none⟩) t.ns.length cap], .int .i64 (k false).rid] X fun e w' => e = .returned (.int .i64 (k false).high) ∧ Gr X w') := Lib.hid (fun X hX => ih false j X (HN.out.below hX.below) hL hhl.1)
    have HI2 : Hid (∀ X, Gr W X → Calls Try.prog 53 #[.agg #[.int .i64 t.root, .slice (some ⟨nb, off, none⟩) t.ns.length cap], .int .i64 (k true).rid] X fun e w' => e = .returned (.int .i64 (k true).high) ∧ Gr X w') := Lib.hid (fun X hX => ih true j X (HN.out.below hX.below) hR hhl.2)
    have HE : Hid ((B.N j c v' k).high = 1 + max (k false).high (k true).high) := Lib.hid rfl
    rw [HE.out]
    change Calls Try.prog 53 #[.agg #[.int .i64 t.root, .slice (some ⟨nb, off, none⟩) t.ns.length cap], .int .i64 j] W _
    have HGS : Hid (∀ X, Gr (W.alloc (.cells #[.int .i64 t.root, .slice (some ⟨nb, off, none⟩) t.ns.length cap] 24)) X → X.cell? ⟨W.heap.size, 0, none⟩ = some (.int .i64 t.root) ∧ X.cell? ⟨W.heap.size, 1, none⟩ = some (.slice (some ⟨nb, off, none⟩) t.ns.length cap) ∧ X.cell? ⟨nb, off + j * 6 + 3, none⟩ = some (.int .i64 (k false).rid) ∧ X.cell? ⟨nb, off + j * 6 + 4, none⟩ = some (.int .i64 (k true).rid)) := Lib.hid (fun X hX => by
      have hT := (HT.out.below hX.below HT.out.lt).all
      have hM := (HN.out.below (HG0.out.trans hX).below).nc hj
      have e : t.ns.getD j nE = t.nd j := by unfold T.nd; rw [Int.toNat_natCast]
      rw [e, hnd] at hM
      exact ⟨hT.1, hT.2.1, hM.2.2.2.1, hM.2.2.2.2.1⟩)
    generalize (k false).rid = xl at HI1 HGS
    generalize (k true).rid = xr at HI2 HGS
    generalize (k false).high = hl at HI1 hhl ⊢
    generalize (k true).high = hr at HI2 hhl ⊢
    have hne : ¬ (j : Int) < 0 := by omega
    have hjl : (j : Int) < t.ns.length := by omega
    unfold maxLen at hc2
    clear hnd hL hR ih hh hi HE hN HT
    obtain ⟨m, hm⟩ : ∃ m, 1 + max hl hr = m := ⟨_, rfl⟩
    rw [hm]
    have HM := Lib.hid hm
    clear hm
    have hw1 : IntKind.i64.wrap (1 + max (hl : Int) (hr : Int)) = (m : Int) := by rw [IntKind.wrap_i64]; have := HM.out; omega
    go_enter Try.func53, Try.ntmps53
    go_upto_region 3 with fail
    generalize W.alloc (.cells #[.int .i64 t.root, .slice (some ⟨nb, off, none⟩) t.ns.length cap] 24) = w1 at HG0 HGS ⊢
    have HD : Hid (Gr w1 w1.drew) := Lib.hid (Gr.drew w1 1)
    have hx1 := HGS.out _ HD.out
    have HX1 := Lib.hid (HI1.out _ (HG0.out.trans HD.out))
    have HX2 := Lib.hid (HI2.out _ (HG0.out.trans HD.out))
    have HTR : Hid (∀ X, Gr w1.drew X → Gr W X ∧ Gr w1 X) := Lib.hid (fun X hX => ⟨(HG0.out.trans HD.out).trans hX, HD.out.trans hX⟩)
    go_region_held3 (fun X => X.cell? ⟨W.heap.size, 0, none⟩ = some (.int .i64 t.root) ∧ X.cell? ⟨W.heap.size, 1, none⟩ = some (.slice (some ⟨nb, off, none⟩) t.ns.length cap) ∧ X.cell? ⟨nb, off + j * 6 + 3, none⟩ = some (.int .i64 xl) ∧ X.cell? ⟨nb, off + j * 6 + 4, none⟩ = some (.int .i64 xr))
      (first
        | exact hx1
        | (with_reducible exact HGS.out _ (HTR.out _ hg3).2)
        | (with_reducible exact HGS.out _ (HTR.out _ hk3).2)
        | (with_reducible exact HGS.out _ (HTR.out _ (hg3.trans hg4)).2)
        | (with_reducible exact HGS.out _ (HTR.out _ (hk3.trans hg4)).2)
        | go_keep)
      (first
        | (go_at_call 53; with_reducible refine HX1.out.mono ?_; rintro e' w3 ⟨rfl, hg3⟩)
        | (go_at_call 53; with_reducible refine HX2.out.mono ?_; rintro e' w3 ⟨rfl, hk3⟩)
        | (go_at_call 53; with_reducible refine (HI2.out _ (HTR.out _ hg3).1).mono ?_; rintro e' w4 ⟨rfl, hg4⟩; have hGF := (HTR.out _ (hg3.trans hg4)).1)
        | (go_at_call 53; with_reducible refine (HI1.out _ (HTR.out _ hk3).1).mono ?_; rintro e' w4 ⟨rfl, hg4⟩; have hGF := (HTR.out _ (hk3.trans hg4)).1))
    all_goals
      clear hx1
      go_wp2
    all_goals
      go_ret
      exact ⟨by rw [← hw1]; rfl, hGF⟩

theorem rHeight_at {W : World} {v : Value} {t : T} (hN : Nds W v t.ns) {n : Nat} (hn : (∃ b, Whole t b ∧ n = b.high) ∨ (¬ wholeP t ∧ n = 0)) :
    Calls Try.prog 24 #[tv t v] W fun e w' => e = .returned (.int .i64 n) ∧ Below W.heap.size W w' := by
  have HB := Lib.hid (Gr.alloc W (.cells #[.int .i64 t.root, v] 24)).below
  have HT := Lib.hid (Tb.new W t.root v 24)
  have HN1 := Lib.hid (hN.below HB.out)
  have HC := Lib.hid (rorder_at HN1.out)
  obtain ⟨a, cap, rfl, -, -⟩ := hN.len
  unfold tv
  rcases hn with ⟨b, hb, rfl⟩ | ⟨hno, rfl⟩
  · have HO := Lib.hid hb.order.1
    have HWB := Lib.hid hb
    clear hN hb
    go_enter Try.func24, Try.ntmps24
    go_upto_region 1 with fail
    generalize W.alloc (.cells #[.int .i64 t.root, .slice a t.ns.length cap] 24) = w1 at HB HT HN1 HC ⊢
    obtain ⟨x0, x1, -, -⟩ := HT.out.all
    go_wp2_with fail
    refine HC.out.mono ?_
    rintro e' w2 ⟨hy, -, hb⟩
    obtain ⟨v2, rfl, hI⟩ := hy HO.out
    have HN2 := Lib.hid (HN1.out.below hb)
    have HB2 := Lib.hid (HB.out.trans (hb.mono HB.out.size))
    obtain ⟨y0, y1, -, -⟩ := (HT.out.below hb HT.out.lt).all
    have HH := Lib.hid (rheight_at b (-1) w2 HN2.out HWB.out.sub (by have := HWB.out.size; have := b.high_le; omega))
    rw [← HWB.out.root] at HH
    clear HC hy hI hb HN1 HT HB x0 x1
    go_wp2_with fail
    refine HH.out.mono ?_
    rintro e' w3 ⟨rfl, hg⟩
    go_wp2
    go_ret
    exact ⟨rfl, HB2.out.trans (hg.below.mono HB2.out.size)⟩
  · have HO : Hid (¬ orderP t) := Lib.hid (fun ho => hno (by obtain ⟨b, hb, -⟩ := ho.whole; exact (whole_iff t).2 ⟨b, hb⟩))
    clear hN hno
    go_enter Try.func24, Try.ntmps24
    go_upto_region 1 with fail
    generalize W.alloc (.cells #[.int .i64 t.root, .slice a t.ns.length cap] 24) = w1 at HB HT HN1 HC ⊢
    obtain ⟨x0, x1, -, -⟩ := HT.out.all
    go_wp2_with fail
    refine HC.out.mono ?_
    rintro e' w2 ⟨-, hy, hb⟩
    rw [hy HO.out]
    have HB2 := Lib.hid (HB.out.trans (hb.mono HB.out.size))
    clear HC hy hb HN1 HT HB x0 x1
    go_wp2
    go_ret
    exact ⟨rfl, HB2.out⟩
end Go.Proofs.Ytgjacmkedgbneaa

namespace Go.Proofs.Ytgjacmkedgbneaa
open Go.RowKit Go.Sort Ky Wd Tn Tr

/-- What blacks tells. -/
def bl (b : B) : Int := if b.plain.2 = true then (b.plain.1 : Int) else -1
theorem bl_N (i : Int) (c : Bool) (v : Int) (k : Bool → B) : bl (.N i c v k) = if bl (k false) < 0 ∨ bl (k false) ≠ bl (k true) ∨ (c = true ∧ ((k false).isRed = true ∨ (k true).isRed = true)) then -1 else if c = true then bl (k false) else bl (k false) + 1 := by
  unfold bl
  rw [B.plain]
  generalize (k false).plain = p
  generalize (k true).plain = q
  generalize (k false).isRed = rl
  generalize (k true).isRed = rr
  obtain ⟨p1, p2⟩ := p
  obtain ⟨q1, q2⟩ := q
  by_cases h : p1 = q1 <;> cases p2 <;> cases q2 <;> cases c <;> cases rl <;> cases rr <;> simp [h] <;> omega
theorem bl_le (b : B) : -1 ≤ bl b ∧ bl b ≤ b.keys.length := by
  unfold bl
  have := b.plain_le
  split <;> omega

set_option maxHeartbeats 4000000 in
set_option maxRecDepth 100000 in
theorem rblacks_at {v : Value} {t : T} (b : B) : ∀ (u : Int) (W : World), Nds W v t.ns → Sub t b u → b.keys.length ≤ 1000 →
    Calls Try.prog 48 #[.agg #[.int .i64 t.root, v], .int .i64 b.rid] W fun e w' => e = .returned (.int .i64 (bl b)) ∧ Gr W w' := by
  induction b with
  | L =>
    intro u W hN hS hh
    change Calls Try.prog 48 #[.agg #[.int .i64 t.root, v], .int .i64 (-1)] W fun e w' => e = .returned (.int .i64 0) ∧ Gr W w'
    obtain ⟨a, cap, rfl, -, -⟩ := hN.len
    clear hN hS hh
    go_enter Try.func48, Try.ntmps48
    go_wp2_with fail
    go_ret
    exact ⟨rfl, Gr.alloc _ _⟩
  | N i c v' k ih =>
    intro u W hN hS hh
    obtain ⟨hi, hnd, hL, hR⟩ := hS
    obtain ⟨j, rfl, hj⟩ := has_nat hi
    obtain ⟨nb, off, cap, rfl, hc1, hc2, -⟩ := hN.at hj
    have HT := Lib.hid (Tb.new W t.root (.slice (some ⟨nb, off, none⟩) t.ns.length cap) 24)
    have HG0 : Hid (Gr W (W.alloc (.cells #[.int .i64 t.root, .slice (some ⟨nb, off, none⟩) t.ns.length cap] 24))) := Lib.hid (Gr.alloc _ _)
    have HS1 : Hid ((W.alloc (.cells #[.int .i64 t.root, .slice (some ⟨nb, off, none⟩) t.ns.length cap] 24)).heap.size = W.heap.size + 1) := Lib.hid (by simp)
    have hhl : (k false).keys.length ≤ 1000 ∧ (k true).keys.length ≤ 1000 := by simp only [B.keys, List.length_append, List.length_cons] at hh; omega
    have HN := Lib.hid hN
    have HI1 : Hid (∀ X, Gr W X → Calls Try.prog 48 #[.agg #[.int .i64 t.root, .slice (some ⟨nb, off, none⟩) t.ns.length cap], .int .i64 (k false).rid] X fun e w' => e = .returned (.int .i64 (bl (k false))) ∧ Gr X w') := Lib.hid (fun X hX => ih false j X (HN.out.below hX.below) hL hhl.1)
    have HI2 : Hid (∀ X, Gr W X → Calls Try.prog 48 #[.agg #[.int .i64 t.root, .slice (some ⟨nb, off, none⟩) t.ns.length cap], .int .i64 (k true).rid] X fun e w' => e = .returned (.int .i64 (bl (k true))) ∧ Gr X w') := Lib.hid (fun X hX => ih true j X (HN.out.below hX.below) hR hhl.2)
    have HR1 : Hid (∀ X, Gr W X → Calls Try.prog 47 #[.agg #[.int .i64 t.root, .slice (some ⟨nb, off, none⟩) t.ns.length cap], .int .i64 (k false).rid] X fun e w' => e = .returned (.bool (k false).isRed) ∧ Gr X w') := Lib.hid (fun X hX => by
      have := rred_at (HN.out.below hX.below) hL.ok
      rw [hL.red] at this
      exact this)
    have HR2 : Hid (∀ X, Gr W X → Calls Try.prog 47 #[.agg #[.int .i64 t.root, .slice (some ⟨nb, off, none⟩) t.ns.length cap], .int .i64 (k true).rid] X fun e w' => e = .returned (.bool (k true).isRed) ∧ Gr X w') := Lib.hid (fun X hX => by
      have := rred_at (HN.out.below hX.below) hR.ok
      rw [hR.red] at this
      exact this)
    obtain ⟨R, hRR⟩ : ∃ R, bl (B.N j c v' k) = R := ⟨_, rfl⟩
    rw [hRR]
    rw [bl_N] at hRR
    have hb1 := bl_le (k false)
    have hb2 := bl_le (k true)
    change Calls Try.prog 48 #[.agg #[.int .i64 t.root, .slice (some ⟨nb, off, none⟩) t.ns.length cap], .int .i64 j] W _
    generalize hxl : (k false).rid = xl at HI1 HR1 hnd
    generalize hxr : (k true).rid = xr at HI2 HR2 hnd
    generalize bl (k false) = al at HI1 hRR hb1
    generalize bl (k true) = ar at HI2 hRR hb2
    generalize (k false).isRed = rl at HR1 hRR
    generalize (k true).isRed = rr at HR2 hRR
    have hal : -1 ≤ al ∧ al ≤ 1000 := by omega
    have har : -1 ≤ ar ∧ ar ≤ 1000 := by omega
    have HRR := Lib.hid hRR
    have HNE : Hid (t.ns.getD j nE = ⟨true, c, v', xl, xr, u⟩) := Lib.hid (by rw [← hnd]; unfold T.nd; rw [Int.toNat_natCast])
    have hne : ¬ (j : Int) < 0 := by omega
    have hjl : (j : Int) < t.ns.length := by omega
    unfold maxLen at hc2
    clear hnd hL hR ih hh hi hN hRR hb1 hb2 hhl hxl hxr
    go_enter Try.func48, Try.ntmps48
    go_upto_region 3 with fail
    generalize W.alloc (.cells #[.int .i64 t.root, .slice (some ⟨nb, off, none⟩) t.ns.length cap] 24) = w1 at HG0 HS1 HT ⊢
    obtain ⟨x0, x1, -, -⟩ := HT.out.all
    have hM := (HN.out.below HG0.out.below).nc hj
    rw [HNE.out] at hM
    obtain ⟨m0, m1, m2, m3, m4, m5⟩ := hM
    simp only at m0 m1 m2 m3 m4 m5
    have HNF := Lib.hid (Nb.fresh w1 ⟨true, c, v', xl, xr, u⟩)
    rw [HS1.out] at HNF
    have HT2 := Lib.hid (HT.out.below (Gr.alloc w1 (.cells #[.bool true, .bool c, .int .u64 v', .int .i64 xl, .int .i64 xr, .int .i64 u] 57)).below HT.out.lt)
    have HG2 : Hid (Gr W (w1.alloc (.cells #[.bool true, .bool c, .int .u64 v', .int .i64 xl, .int .i64 xr, .int .i64 u] 57))) := Lib.hid (HG0.out.trans (Gr.alloc _ _))
    go_upto_region 4 with fail
    clear m0 m1 m2 m3 m4 m5 x0 x1 HT HG0
    generalize hq1 : w1.heap.size = q1 at HS1 ⊢
    have hq : q1 = W.heap.size + 1 := HS1.out
    subst hq
    generalize w1.alloc (.cells #[.bool true, .bool c, .int .u64 v', .int .i64 xl, .int .i64 xr, .int .i64 u] 57) = w2 at HNF HT2 HG2 ⊢
    have HGS : Hid (∀ X, Gr w2 X → X.cell? ⟨W.heap.size, 0, none⟩ = some (.int .i64 t.root) ∧ X.cell? ⟨W.heap.size, 1, none⟩ = some (.slice (some ⟨nb, off, none⟩) t.ns.length cap) ∧ X.cell? ⟨W.heap.size + 1, 1, none⟩ = some (.bool c) ∧ X.cell? ⟨W.heap.size + 1, 3, none⟩ = some (.int .i64 xl) ∧ X.cell? ⟨W.heap.size + 1, 4, none⟩ = some (.int .i64 xr)) := Lib.hid (fun X hX => by
      have hT := (HT2.out.below hX.below HT2.out.lt).all
      have hM := (HNF.out.gr hX).six
      exact ⟨hT.1, hT.2.1, hM.2.1, hM.2.2.2.1, hM.2.2.2.2.1⟩)
    clear HNF HT2 hq1 HNE HN
    obtain ⟨x0, x1, x2, x3, x4⟩ := HGS.out _ (Gr.refl _)
    go_wp2_with fail
    refine (HI1.out _ HG2.out).mono ?_
    rintro e' w3 ⟨rfl, hg3⟩
    have HX3 := Lib.hid hg3
    clear x0 x1 x2 x3 x4 hg3 HI1
    obtain ⟨x0, x1, x2, x3, x4⟩ := HGS.out _ HX3.out
    go_wp2_with fail
    refine (HI2.out _ (HG2.out.trans HX3.out)).mono ?_
    rintro e' w4 ⟨rfl, hg4⟩
    have HX4 := Lib.hid (HX3.out.trans hg4)
    clear x0 x1 x2 x3 x4 hg4 HI2 HX3
    obtain ⟨x0, x1, x2, x3, x4⟩ := HGS.out _ HX4.out
    have HG4 := Lib.hid (HG2.out.trans HX4.out)
    by_cases h1 : al < 0
    · have HE : Hid (R = -1) := Lib.hid (by have h := HRR.out; (try simp at h); first | (split at h <;> omega) | omega)
      go_wp2
      go_ret
      exact ⟨by rw [HE.out]; rfl, HG4.out⟩
    · by_cases h2 : al = ar
      · subst h2
        have hee : (al == al) = true := by simp
        cases c with
        | false =>
          have HE : Hid (R = al + 1) := Lib.hid (by have h := HRR.out; (try simp at h); first | (split at h <;> omega) | omega)
          have hw1 : IntKind.i64.wrap (al + 1) = al + 1 := by rw [IntKind.wrap_i64]; omega
          go_wp2
          go_ret
          exact ⟨by rw [HE.out, ← hw1]; rfl, HG4.out⟩
        | true =>
          go_wp2_with fail
          refine (HR1.out _ HG4.out).mono ?_
          rintro e' w5 ⟨rfl, hg5⟩
          have HX5 := Lib.hid (HX4.out.trans hg5)
          have HG5 := Lib.hid (HG4.out.trans hg5)
          clear x0 x1 x2 x3 x4 hg5 HR1 HX4 HG4
          obtain ⟨x0, x1, x2, x3, x4⟩ := HGS.out _ HX5.out
          cases rl with
          | true =>
            have HE : Hid (R = -1) := Lib.hid (by have h := HRR.out; (try simp at h); first | (split at h <;> omega) | omega)
            go_wp2
            go_ret
            exact ⟨by rw [HE.out]; rfl, HG5.out⟩
          | false =>
            go_wp2_with fail
            refine (HR2.out _ HG5.out).mono ?_
            rintro e' w6 ⟨rfl, hg6⟩
            have HX6 := Lib.hid (HX5.out.trans hg6)
            have HG6 := Lib.hid (HG5.out.trans hg6)
            clear x0 x1 x2 x3 x4 hg6 HR2 HX5 HG5
            obtain ⟨x0, x1, x2, x3, x4⟩ := HGS.out _ HX6.out
            cases rr with
            | true =>
              have HE : Hid (R = -1) := Lib.hid (by have h := HRR.out; (try simp at h); first | (split at h <;> omega) | omega)
              go_wp2
              go_ret
              exact ⟨by rw [HE.out]; rfl, HG6.out⟩
            | false =>
              have HE : Hid (R = al) := Lib.hid (by have h := HRR.out; (try simp at h); first | (split at h <;> omega) | omega)
              go_wp2
              go_ret
              exact ⟨by rw [HE.out]; rfl, HG6.out⟩
      · have HE : Hid (R = -1) := Lib.hid (by have h := HRR.out; (try simp at h); first | (split at h <;> omega) | omega)
        have hee : (al == ar) = false := by rw [beq_eq_false_iff_ne]; exact h2
        go_wp2
        go_ret
        exact ⟨by rw [HE.out]; rfl, HG4.out⟩
theorem bl_pos (b : B) : 0 ≤ bl b ↔ b.plain.2 = true := by
  unfold bl
  split
  · rename_i h
    simp [h]
  · rename_i h
    simp [h]

set_option maxHeartbeats 1000000 in
theorem rRight_at {W : World} {v : Value} {t : T} (hN : Nds W v t.ns) (m : Int) (r : Bool) (hr : r = true ↔ RightP m t) :
    Calls Try.prog 19 #[.agg #[.int .i64 t.root, v], .int .u64 m] W fun e w' => e = .returned (.bool r) ∧ Below W.heap.size W w' := by
  have HB := Lib.hid (Gr.alloc W (.cells #[.int .i64 t.root, v] 24)).below
  have HT := Lib.hid (Tb.new W t.root v 24)
  have HN1 := Lib.hid (hN.below HB.out)
  have HC := Lib.hid (rorder_at HN1.out)
  have HR := Lib.hid hr
  obtain ⟨a, cap, rfl, -, -⟩ := hN.len
  rcases whole_cases t with ⟨ho, b, hb, -⟩ | ⟨ho, hno⟩
  · have HO := Lib.hid ho
    have HWB := Lib.hid hb
    have HRB : Hid (r = true ↔ RightB m b) := Lib.hid (hr.trans (rightP_iff hb))
    have HLN : Hid (b.keys.length ≤ 64) := Lib.hid hb.size
    clear hN hb ho hr HR
    go_enter Try.func19, Try.ntmps19
    go_upto_region 1 with fail
    generalize W.alloc (.cells #[.int .i64 t.root, .slice a t.ns.length cap] 24) = w1 at HB HT HN1 HC ⊢
    obtain ⟨x0, x1, -, -⟩ := HT.out.all
    go_wp2_with fail
    refine HC.out.mono ?_
    rintro e' w2 ⟨hy, -, hb⟩
    obtain ⟨v2, rfl, hI⟩ := hy HO.out
    obtain ⟨a2, c2, rfl⟩ := hI.sl
    have HN2 := Lib.hid (HN1.out.below hb)
    have HT2 := Lib.hid (HT.out.below hb HT.out.lt)
    have HB2 := Lib.hid (HB.out.trans (hb.mono HB.out.size))
    clear HC hy hI hb HN1 HT HB x0 x1
    obtain ⟨x0, x1, -, -⟩ := HT2.out.all
    have HRD := Lib.hid (rred_at HN2.out HWB.out.sub.ok)
    rw [HWB.out.sub.red, ← HWB.out.root] at HRD
    go_wp2_with fail
    refine HRD.out.mono ?_
    rintro e' w3 ⟨rfl, hg3⟩
    have HN3 := Lib.hid (HN2.out.below hg3.below)
    have HT3 := Lib.hid (HT2.out.below hg3.below HT2.out.lt)
    have HB3 := Lib.hid (HB2.out.trans (hg3.below.mono HB2.out.size))
    clear HRD hg3 HN2 HT2 HB2 x0 x1
    obtain ⟨x0, x1, -, -⟩ := HT3.out.all
    cases hred : b.isRed with
    | true =>
      have HE : Hid (r = false) := Lib.hid (by
        cases r with
        | false => rfl
        | true => have := (HRB.out.1 rfl).1; rw [hred] at this; cases this)
      clear hred
      go_wp2
      go_ret
      exact ⟨by rw [HE.out]; rfl, HB3.out⟩
    | false =>
      have HRE := Lib.hid hred
      clear hred
      have HBL := Lib.hid (rblacks_at b (-1) w3 HN3.out HWB.out.sub (by have := HLN.out; omega))
      rw [← HWB.out.root] at HBL
      go_wp2_with fail
      refine HBL.out.mono ?_
      rintro e' w4 ⟨rfl, hg4⟩
      have HN4 := Lib.hid (HN3.out.below hg4.below)
      have HT4 := Lib.hid (HT3.out.below hg4.below HT3.out.lt)
      have HB4 := Lib.hid (HB3.out.trans (hg4.below.mono HB3.out.size))
      clear HBL hg4 HN3 HT3 HB3 x0 x1
      obtain ⟨x0, x1, -, -⟩ := HT4.out.all
      by_cases hpos : 0 ≤ bl b
      · have HPL := Lib.hid ((bl_pos b).1 hpos)
        have HWK := Lib.hid (rWalk_at HN4.out (l := b.keys) (.inl ⟨b, HWB.out, rfl⟩))
        generalize bl b = q at hpos ⊢
        unfold tv at HWK
        go_wp2_with fail
        refine HWK.out.mono ?_
        rintro e' w5 ⟨⟨vs, rfl, hK⟩, hb5⟩
        have HB5 := Lib.hid (HB4.out.trans (hb5.mono HB4.out.size))
        have HSO := Lib.hid (rsorted_any m hK)
        have HE : Hid (r = decide (okK m b.keys)) := Lib.hid (by
          cases hd : decide (okK m b.keys) with
          | true => exact HRB.out.2 ⟨HRE.out, of_decide_eq_true hd, HPL.out⟩
          | false =>
            cases r with
            | false => rfl
            | true => exact absurd (HRB.out.1 rfl).2.1 (of_decide_eq_false hd))
        clear HWK hK hb5 x0 x1
        go_wp2_with fail
        refine HSO.out.mono ?_
        rintro e' w6 ⟨rfl, hg6⟩
        go_wp2
        go_ret
        exact ⟨by rw [HE.out]; rfl, HB5.out.trans (hg6.below.mono HB5.out.size)⟩
      · have HE : Hid (r = false) := Lib.hid (by
          cases r with
          | false => rfl
          | true => exact absurd ((bl_pos b).2 (HRB.out.1 rfl).2.2) hpos)
        generalize bl b = q at hpos ⊢
        go_wp2
        go_ret
        exact ⟨by rw [HE.out]; rfl, HB4.out⟩
  · have HO := Lib.hid ho
    have HE : Hid (r = false) := Lib.hid (by
      cases r with
      | false => rfl
      | true => obtain ⟨b, hb, -⟩ := hr.1 rfl; exact absurd ((whole_iff t).2 ⟨b, hb⟩) hno)
    clear hN hno ho hr HR
    go_enter Try.func19, Try.ntmps19
    go_upto_region 1 with fail
    generalize W.alloc (.cells #[.int .i64 t.root, .slice a t.ns.length cap] 24) = w1 at HB HT HN1 HC ⊢
    obtain ⟨x0, x1, -, -⟩ := HT.out.all
    go_wp2_with fail
    refine HC.out.mono ?_
    rintro e' w2 ⟨-, hy, hb⟩
    rw [hy HO.out]
    have HB2 := Lib.hid (HB.out.trans (hb.mono HB.out.size))
    clear HC hy hb HN1 HT HB x0 x1
    go_wp2
    go_ret
    exact ⟨by rw [HE.out]; rfl, HB2.out⟩
end Go.Proofs.Ytgjacmkedgbneaa
