/-
  An argument that is a slice of waiters: what it holds, and that no waiter's locks are more than the reach.
-/
import Derived.Test.YthbabhmpkniliaaLkO
import Derived.Deep.Slices
import Derived.Deep.Fields
import Derived.ChangeSame
import Derived.SizedLaws
namespace Go.Proofs.Ythbabhmpkniliaa
open Go.RowKit Go.ChangeAt Go.ChangeShapes Go.WideShapes Go.Deep Lk

theorem mem_weightsAll {H : Type} {P : Program} {e : TypeId} {n : Nat} : ∀ {l : List (DataW H)} {d : DataW H}, d ∈ l → n ∈ d.weights P e → n ∈ DataW.weightsAll P e l
  | [], _, h, _ => by cases h
  | d0 :: l, d, h, hn => by
    unfold DataW.weightsAll
    rcases List.mem_cons.1 h with rfl | h
    · exact List.mem_append_left _ hn
    · exact List.mem_append_right _ (mem_weightsAll h hn)

theorem wts_arg {H : Type} {enc : TypeId × Value → H} {P : Program} {W : World} {base b0 : Nat} {r : Reach} {held : Bool} {t e ti : TypeId} {f0 f1 : Field} {v : Value} {d : DataW H} {p : List MemPlace}
    (ht : P.underlying t = some (.slice e)) (he : P.underlying e = some (.struct #[f0, f1])) (hone : oneCellFields P #[f0, f1] = true) (hC : P.cellsOf e = 2)
    (hts : P.underlying f0.type = some (.slice ti)) (hti : P.underlying ti = some (.int .i64)) (hci : P.cellsOf ti = 1) (hbi : P.bytesOf ti = 8) (hx1 : P.underlying f1.type = some (.int .i64))
    (hok : Value.okWide P W r base t v) (h : DataW.Trod enc P W b0 (fun _ => true) held t v d p) (hsz : ∀ n ∈ d.weights P t, n ≤ reachBytes) :
    ∃ ws, Wts W v ws ∧ ∀ i, i < ws.length → (ws.getD i wE).1.length ≤ 140737488355328 := by
  obtain ⟨a0, len, cap, rfl⟩ := okWide_slice ht hok
  obtain ⟨fuel, hf⟩ := h
  rcases open_slice ht hf with ⟨hcs, -⟩ | ⟨a, len', cap', mm, n, D, Pl, hcs, hb, hl, hm, hmm, hx, hel⟩
  · simp [Value.cells] at hcs
    obtain ⟨rfl, rfl, rfl⟩ := hcs
    exact ⟨[], ⟨none, 0, rfl, ⟨Nat.le_refl _, Nat.zero_le _⟩, by simp, fun h => absurd rfl h⟩, fun i hi => absurd hi (Nat.not_lt_zero _)⟩
  · simp [Value.cells] at hcs
    obtain ⟨rfl, rfl, rfl⟩ := hcs
    simp only [if_true] at hmm
    subst hmm
    have hd : d = .slice ((List.range len).map D) ((List.range (mm - len)).map fun j => D (len + j)) := (Prod.mk.inj hx).1
    have each : ∀ i, i < len → ∃ q : Value × Wt, W.cell? (a.add (i * 2)) = some q.1 ∧ W.cell? (a.add (i * 2 + 1)) = some (.int .i64 q.2.2) ∧ Ints .i64 W q.1 q.2.1 ∧ I q.2.2 ∧ q.2.1.length ≤ 140737488355328 := by
      intro i hi
      obtain ⟨cs', h1, h2⟩ := hel i (by omega)
      rw [hC] at h1
      obtain ⟨-, hlen, hcell⟩ := World.cells?_some h1
      obtain ⟨xs, m, -, hD, -, hxl, hg⟩ := DataW.trod_struct he h2
      obtain ⟨c0, c1, rfl⟩ : ∃ c0 c1, cs' = [c0, c1] := by
        match cs', hlen with
        | [c0, c1], _ => exact ⟨c0, c1, rfl⟩
      obtain ⟨x0, x1, rfl⟩ : ∃ x0 x1, xs = [x0, x1] := by
        match xs, hxl with
        | [x0, x1], _ => exact ⟨x0, x1, rfl⟩
      obtain ⟨o0, k0⟩ := hone_of hone 0 f0 rfl
      obtain ⟨o1, k1⟩ := hone_of hone 1 f1 rfl
      have g0 := hg 0 f0 rfl
      have g1 := hg 1 f1 rfl
      rw [o0, k0] at g0
      rw [o1, k1] at g1
      have g0' : DataW.trod enc P W b0 (fun _ => true) held m f0.type [c0] = some x0 := g0
      have g1' : DataW.trod enc P W b0 (fun _ => true) held m f1.type [c1] = some x1 := g1
      obtain ⟨z, e1, -, w1⟩ := DataW.trod_int hx1 g1'
      obtain rfl := (List.cons.inj e1).1
      have q0 := hcell 0 (by omega)
      have q1 := hcell 1 (by omega)
      rw [Go.Deep.add_add] at q0 q1
      have hI : I z := by
        have := bounds_i64 w1
        unfold I; omega
      have hDi : D i = .agg [x0.1, x1.1] := (Prod.mk.inj hD).1
      rcases open_ints hts hti hci g0' with ⟨hc0, -⟩ | ⟨a2, l2, cp2, zs, hc0, _, hl2, hm2, hz2, hx2, hcell2, hwz⟩
      · obtain rfl : c0 = .slice none 0 0 := by simpa using hc0
        exact ⟨(.slice none 0 0, ([], z)), q0, q1, ⟨none, 0, rfl, Nat.zero_le _, by simp, fun h => absurd rfl h⟩, hI, Nat.zero_le _⟩
      · have hI0 : ∃ zs, Ints .i64 W c0 zs := by
          obtain rfl : c0 = .slice (some a2) l2 cp2 := by simpa using hc0
          simp only [if_true] at hz2
          have hlen2 : (zs.take l2).length = l2 := by rw [List.length_take]; omega
          refine ⟨zs.take l2, some a2, cp2, by rw [hlen2], by omega, fun z hz' => hwz z (List.mem_of_mem_take hz'), fun hne => ?_⟩
          have hp : 0 < l2 := by rw [← hlen2]; exact List.length_pos_iff.2 hne
          obtain ⟨b, off, rfl, hc'⟩ := ints_at hcell2 (by omega)
          refine ⟨b, off, rfl, fun i hi => ?_⟩
          rw [hlen2] at hi
          rw [hc' i (by omega)]
          simp [List.getD, hi]
        obtain ⟨ys, hys⟩ := hI0
        have hyl : ys.length = l2 := by
          obtain ⟨a3, c3, e3, -⟩ := hys
          obtain rfl : c0 = .slice (some a2) l2 cp2 := by simpa using hc0
          cases e3; rfl
        refine ⟨(c0, (ys, z)), q0, q1, hys, hI, ?_⟩
        have hx2' : x0.1 = .slice (lits .i64 (zs.take l2)) (lits .i64 (zs.drop l2)) := congrArg Prod.fst hx2
        have hw : ((lits (H := H) .i64 (zs.take l2)).length + (lits (H := H) .i64 (zs.drop l2)).length) * 8 ≤ reachBytes := by
          refine hsz _ ?_
          rw [hd]
          unfold DataW.weights
          rw [ht]
          simp only [List.mem_cons, List.mem_append]
          refine .inr (.inl (mem_weightsAll (d := D i) (List.mem_map.2 ⟨i, List.mem_range.2 hi, rfl⟩) ?_))
          rw [hDi]
          unfold DataW.weights
          rw [he]
          simp only [List.map_cons, List.map_nil, DataW.weightsEach, List.mem_append, List.append_nil]
          refine .inl ?_
          rw [hx2']
          unfold DataW.weights
          rw [hts, ← hbi]
          simp
        have hl3 : (lits (H := H) .i64 (zs.take l2)).length = l2 := by
          have : (zs.take l2).length = l2 := by rw [List.length_take]; simp only [if_true] at hz2; omega
          unfold lits; simpa using this
        show ys.length ≤ _
        rw [hl3] at hw
        unfold reachBytes at hw
        omega
    obtain ⟨q, hq⟩ := choose_lt each
    refine ⟨(List.range len).map fun i => (q i).2, ⟨some a, mm, by simp, ⟨by simp; omega, by omega⟩, fun x hx => ?_, fun hne => ?_⟩, fun i hi => ?_⟩
    · obtain ⟨i, hi, rfl⟩ := List.mem_map.1 hx
      exact (hq i (List.mem_range.1 hi)).2.2.2.1
    · have hp : 0 < len := by
        rcases Nat.eq_zero_or_pos len with h0 | h0
        · subst h0; exact absurd rfl hne
        · exact h0
      obtain ⟨b, off, spot⟩ := a
      have hspot : spot = none := by simpa [Addr.add] using World.cell?_spot (hq 0 hp).1
      subst hspot
      refine ⟨b, off, rfl, fun i hi => ?_⟩
      have hi' : i < len := by simpa using hi
      have h1 := hq i hi'
      rw [Go.WideShapes.add_plain, Go.WideShapes.add_plain] at h1
      have eg : ((List.range len).map fun i => (q i).2).getD i wE = (q i).2 := by simp [List.getD, hi']
      rw [eg]
      exact ⟨(q i).1, h1.1, h1.2.2.1, h1.2.1⟩
    · have hi' : i < len := by simpa using hi
      have eg : ((List.range len).map fun i => (q i).2).getD i wE = (q i).2 := by simp [List.getD, hi']
      rw [eg]
      exact (hq i hi').2.2.2.2
end Go.Proofs.Ythbabhmpkniliaa
