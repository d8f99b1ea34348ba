/-
  Contract of turnspitref08's Drop: the document's own answer.
-/
import Derived.Test.YtgjacmkedgbneaaKyV
namespace Go.Proofs.Ytgjacmkedgbneaa
open Go.RowKit Go.Sort Wd Tn Ky

/-- The step of a region that draws, at an append of keys onto a slice of the call's own. -/
theorem step_append_keys {P : Program} {w : World} {bytes : Nat} {ops : Array Oper} {o : Oper} {a : Act} {Kk : Act → World → Prop} {Q : Exit → Act → World → Prop} {E : Prop} (hgd : o.guard = none) (s x : Operand) (t : TypeId)
    (ho : o.op = .call { callee := .builtin .append, args := #[s, x], argTypes := #[t, t] }) (B : Nat) (e : TypeId) (ht : P.underlying t = some (.slice e)) (hi : (P.info? e).map (fun i => (i.zero, i.size, i.bytes)) = some (some (.agg #[.int .u64 0, .int .i64 0]), 2, bytes))
    (hb : bytes ≤ 1048576) (v u : Value) (hv : a.eval s = v) (hu : a.eval x = u) (zs ys : List K) (h : OwnK w B e v zs) (hx : Keys w u ys) (hroom : zs.length + ys.length ≤ 1048576) (hB : B ≤ w.heap.size)
    (hK : ∀ v' w', OwnK w' B e v' (zs ++ ys) → Below B w w' → Kk (a.put o.dst v') w') : if Region.wanted o (yielded ops a.tmps) = true then Oper.wp P o a w Kk Q else E := by
  have hw : Region.wanted o (yielded ops a.tmps) = true := by simp [Region.wanted, hgd]
  rw [if_pos hw]
  subst hv hu
  obtain ⟨i, hi, hz, hs1, hs2⟩ := info_parts hi
  obtain ⟨v', w', hr, h2, h3⟩ := run_append_keys (ty := o.type) ht hi hz hs1 hs2 rfl h hx hroom hb hB
  have hbel : Below B w w' := (Below.refl B w).grown h3 hB h.lt
  unfold Oper.wp execOp
  simp only [ho, resolve, invoke, builtin, Sem.run_bind, Sem.run_pure, Result.andThen_ok, List.map_toArray, List.map_cons, List.map_nil, hr]
  exact hK v' w' h2 hbel

theorem keys_upto {w : World} {b off n cap i : Nat} {l : List K} (h : Keys w (.slice (some ⟨b, off, none⟩) n cap) l) (hn : n = l.length) (hi : i ≤ n) (h0 : 0 < n) : Keys w (.slice (some ⟨b, off, none⟩) i cap) (l.take i) := by
  have hp := h.parts
  rcases hp with ⟨rfl, _⟩ | ⟨hp, b', off', cap', he, hc, hb, hcs⟩
  · simp at hn; omega
  · simp only [Value.slice.injEq, Option.some.injEq, Addr.mk.injEq] at he
    obtain ⟨⟨rfl, rfl, -⟩, -, rfl⟩ := he
    refine ⟨_, _, by rw [List.length_take, Nat.min_eq_left (by omega)], ⟨by rw [List.length_take]; omega, hc.2⟩, fun x hx => h.kin x (List.mem_of_mem_take hx), fun _ => ⟨b, off, rfl, fun j hj => ?_⟩⟩
    have hj' : j < i := by rw [List.length_take] at hj; omega
    have := hcs j (by omega)
    simpa [List.getD, List.getElem?_take_of_lt hj'] using this
theorem keys_from {w : World} {b off n cap i : Nat} {l : List K} {A : Addr} (h : Keys w (.slice (some ⟨b, off, none⟩) n cap) l) (hn : n = l.length) (hi : i ≤ n) (h0 : 0 < n) (hA : (if cap = i then some (⟨b, off, none⟩ : Addr) else some ⟨b, off + i * 2, none⟩) = some A) :
    Keys w (.slice (some A) (n - i) (cap - i)) (l.drop i) := by
  rcases h.parts with ⟨rfl, _⟩ | ⟨hp, b', off', cap', he, hc, hb, hcs⟩
  · simp at hn; omega
  · simp only [Value.slice.injEq, Option.some.injEq, Addr.mk.injEq] at he
    obtain ⟨⟨rfl, rfl, -⟩, -, rfl⟩ := he
    refine ⟨_, _, by rw [List.length_drop, hn], ⟨by rw [List.length_drop]; omega, by omega⟩, fun x hx => h.kin x (List.mem_of_mem_drop hx), fun hne => ?_⟩
    have hlt : i < l.length := by
      rcases Nat.lt_or_ge i l.length with h1 | h1
      · exact h1
      · exact absurd (List.drop_eq_nil_of_le h1) hne
    rw [if_neg (by omega)] at hA
    simp only [Option.some.injEq] at hA
    subst hA
    refine ⟨b, off + i * 2, rfl, fun j hj => ?_⟩
    rw [List.length_drop] at hj
    have := hcs (i + j) (by omega)
    rw [show off + i * 2 + j * 2 = off + (i + j) * 2 by omega]
    simpa [List.getD, List.getElem?_drop] using this

set_option maxHeartbeats 400000 in
theorem rdrop_any (m : Int) {W : World} {v : Value} {l : List K} (id : Int) (h : Keys W v l) (hl : l.length ≤ 1000) :
    Calls Try.prog 29 #[.int .u64 m, v, .int .i64 id] W fun e w' => (∃ v', e = .returned (.tuple #[v', .int .i64 (dropE m l id)]) ∧ Keys w' v' (dropL m l id)) ∧ Below W.heap.size W w' := by
  have HK := Lib.hid h
  have HS := Lib.hid (rsorted_any m h)
  by_cases hok : okK m l
  · rw [decide_eq_true hok] at HS
    by_cases hin : idxK id l < l.length
    · obtain ⟨e1, e2⟩ := drop_has hok hin
      have HE := Lib.hid (And.intro e1 e2)
      have HA : Hid (∀ X, Gr W X → Calls Try.prog 55 #[v, .int .i64 id] X fun e w' => e = .returned (.int .i64 (idxK id l : Nat)) ∧ X = w') := Lib.hid (fun X hX => by rw [← atI_in hin]; exact at_any id (HK.out.below hX.below))
      obtain ⟨i, hi⟩ : ∃ i, idxK id l = i := ⟨_, rfl⟩
      rw [hi] at hin HA HE
      rcases h.parts with ⟨rfl, _⟩ | ⟨hp, b, off, cap, rfl, hcap, hb, -⟩
      · simp at hin
      · obtain ⟨A, hA⟩ : ∃ A : Addr, (if cap = i + 1 then some (⟨b, off, none⟩ : Addr) else some ⟨b, off + (i + 1) * 2, none⟩) = some A := by
          by_cases hc : cap = i + 1
          · exact ⟨_, if_pos hc⟩
          · exact ⟨_, if_neg hc⟩
        have HU : Hid (∀ X, Below W.heap.size W X → Keys X (.slice (some ⟨b, off, none⟩) i cap) (l.take i) ∧ Keys X (.slice (some A) (l.length - (i + 1)) (cap - (i + 1))) (l.drop (i + 1))) := Lib.hid (fun X hX => ⟨keys_upto (HK.out.below hX) rfl (by omega) (by omega), keys_from (HK.out.below hX) rfl (by omega) (by omega) hA⟩)
        have HKN : Hid (∀ x ∈ l.take i ++ l.drop (i + 1), Kin x) := Lib.hid (fun x hx => by
          rcases List.mem_append.1 hx with h1 | h1
          · exact HK.out.kin x (List.mem_of_mem_take h1)
          · exact HK.out.kin x (List.mem_of_mem_drop h1))
        have HLT : Hid ((l.take i).length ≤ 1000 ∧ (l.drop (i + 1)).length ≤ 1000) := Lib.hid ⟨by rw [List.length_take]; omega, by rw [List.length_drop]; omega⟩
        have hw1 : IntKind.i64.wrap ((i : Int) + 1) = (i : Int) + 1 := by rw [IntKind.wrap_i64]; omega
        have hb1 : (0 : Int) ≤ (i : Int) + 1 := by omega
        have hb2 : (i : Int) + 1 ≤ (l.length : Int) := by omega
        have hb3 : (i : Int) ≤ (cap : Int) := by omega
        have htn : ((i : Int) + 1).toNat = i + 1 := by omega
        unfold maxLen at hcap
        clear e1 e2 hok hi h
        go_enter Try.func29, Try.ntmps29
        go_wp2_with fail
        refine HS.out.mono ?_
        rintro e' w1 ⟨rfl, hg⟩
        have HB1 := Lib.hid hg.below
        have HA1 := Lib.hid (HA.out w1 hg)
        clear hg
        go_wp2_with fail
        refine HA1.out.mono ?_
        rintro e' w2 ⟨rfl, rfl⟩
        go_wp2_with fail
        go_region_law (first
          | (refine step_append_keys rfl (.const (.slice none 0 0)) (.tmp 20) 38 rfl W.heap.size 27 Try.underlying38 info_key (by decide) (.slice none 0 0) (.slice (some ⟨b, off, none⟩) i cap) (by simp [Act.eval]) (by simp [Act.eval, Act.put]) [] (l.take i) (OwnK.nil w1.drew _ _) (HU.out w1.drew HB1.out.drew).1 (by have := HLT.out.1; simp only [List.length_nil]; omega) HB1.out.drew.size ?_; intro v2 w2 hO2 hb2)
          | (refine step_append_keys rfl (.tmp 21) (.tmp 25) 38 rfl W.heap.size 27 Try.underlying38 info_key (by decide) v2 (.slice (some A) (l.length - (i + 1)) (cap - (i + 1))) (by simp [Act.eval]) (by simp [Act.eval]) (l.take i) (l.drop (i + 1)) hO2 (HU.out w2 (HB1.out.drew.trans hb2)).2 (by have := HLT.out; omega) (HB1.out.drew.trans hb2).size ?_; intro v3 w3 hO3 hb3))
        all_goals
          have HF : Hid (Below W.heap.size W w3) := Lib.hid ((HB1.out.drew.trans hb2).trans hb3)
          have HKP := Lib.hid (hO3.keys HKN.out)
          clear hb2 hb3 hO2 hO3
          go_wp2
          go_ret2
          exact ⟨⟨v3, by rw [HE.out.1]; rfl, by rw [HE.out.2]; exact HKP.out⟩, HF.out⟩
    · obtain ⟨e1, e2⟩ := drop_none hok hin
      have HE := Lib.hid (And.intro e1 e2)
      have HA : Hid (∀ X, Gr W X → Calls Try.prog 55 #[v, .int .i64 id] X fun e w' => e = .returned (.int .i64 (-1)) ∧ X = w') := Lib.hid (fun X hX => by rw [← atI_out hin]; exact at_any id (HK.out.below hX.below))
      clear e1 e2 hok hin h
      go_enter Try.func29, Try.ntmps29
      go_wp2_with fail
      refine HS.out.mono ?_
      rintro e' w1 ⟨rfl, hg⟩
      have HB1 := Lib.hid hg.below
      have HA1 := Lib.hid (HA.out w1 hg)
      clear hg
      go_wp2_with fail
      refine HA1.out.mono ?_
      rintro e' w2 ⟨rfl, rfl⟩
      go_wp2
      go_ret2
      exact ⟨⟨.slice none 0 0, by rw [HE.out.1]; rfl, by rw [HE.out.2]; exact nil_keys _⟩, HB1.out⟩
  · rw [decide_eq_false hok] at HS
    obtain ⟨e1, e2⟩ := drop_unsorted hok id
    have HE := Lib.hid (And.intro e1 e2)
    clear e1 e2 h
    go_enter Try.func29, Try.ntmps29
    go_wp2_with fail
    refine HS.out.mono ?_
    rintro e' w1 ⟨rfl, hg⟩
    go_wp2
    go_ret2
    exact ⟨⟨.slice none 0 0, by rw [HE.out.1]; rfl, by rw [HE.out.2]; exact nil_keys _⟩, hg.below⟩
end Go.Proofs.Ytgjacmkedgbneaa
