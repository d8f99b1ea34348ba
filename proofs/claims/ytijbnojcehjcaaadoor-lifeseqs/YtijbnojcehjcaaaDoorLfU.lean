/-
  turnspitlaw07.steps: events by numbers, at most 60.
-/
import Derived.Test.YtijbnojcehjcaaaDoorLfG
import Derived.Deep.RegionLaw
namespace Go.Proofs.YtijbnojcehjcaaaDoor
open Go.RowKit Go.Joins Go.Maps Pk Lf

section
variable {P : Program} {w : World} {B : Nat} {bytes : Nat}
/-- The step of a region that draws, at an append of pairs onto a slice of the call's own. -/
theorem step_append_prs {ops : Array Oper} {o : Oper} {a : Act} {K : Act → World → Prop} {Q : Exit → Act → World → Prop} {E : Prop} (hgd : o.guard = none) (s x : Operand) (t : TypeId)
    (ho : o.op = .call { callee := .builtin .append, args := #[s, x], argTypes := #[t, t] }) (B : Nat) (e : TypeId) (ht : P.underlying t = some (.slice e)) (hi : (P.info? e).map (fun i => (i.zero, i.size, i.bytes)) = some (some (.agg #[.int .i64 0, .int .i64 0]), 2, bytes))
    (hb : bytes ≤ 1048576) (zs ys : List (Int × Int)) (h : OwnP w B e (a.eval s) zs) (hx : Prs w (a.eval x) ys) (hroom : zs.length + ys.length ≤ 1048576) (hB : B ≤ w.heap.size)
    (hK : ∀ v' w', OwnP w' B e v' (zs ++ ys) → Below B w w' → K (a.put o.dst v') w') : if Region.wanted o (yielded ops a.tmps) = true then Oper.wp P o a w K Q else E := by
  have hw : Region.wanted o (yielded ops a.tmps) = true := by simp [Region.wanted, hgd]
  rw [if_pos hw]
  obtain ⟨i, hi, hz, hs1, hs2⟩ := info_parts hi
  obtain ⟨v', w', hr, h2, h3⟩ := run_append_prs (ty := o.type) ht hi hz hs1 hs2 rfl h hx hroom hb hB
  have hbel : Below B w w' := (Below.refl B w).grown h3 hB h.lt
  unfold Oper.wp execOp
  simp only [ho, resolve, invoke, builtin, Sem.run_bind, Sem.run_pure, Result.andThen_ok, List.map_toArray, List.map_cons, List.map_nil, hr]
  exact hK v' w' h2 hbel
end

theorem Prs.drew {w : World} {v : Value} {l : List (Int × Int)} (h : Prs w v l) : Prs w.drew v l := h
theorem OwnP.drew {w : World} {B : Nat} {e : TypeId} {v : Value} {l : List (Int × Int)} (h : OwnP w B e v l) : OwnP w.drew B e v l := h
theorem info_pair : (Tryd.prog.info? 40).map (fun i => (i.zero, i.size, i.bytes)) = some (some (.agg #[.int .i64 0, .int .i64 0]), 2, 16) := by kernel_rfl
theorem info_u64 : (Tryd.prog.info? 22).map (fun i => (i.zero, i.size, i.bytes)) = some (some (.int .u64 0), 1, 8) := by kernel_rfl

/-- An event and a CPU, by a number. -/
def st1 (x : Int) : Int × Int := (x % 16, x / 16 % 64)
def stepsL (zs : List Int) : List (Int × Int) := (zs.take 60).map st1
theorem st1_wf (x : Int) : (Lit.int .i64 (st1 x).1).wf = true ∧ (Lit.int .i64 (st1 x).2).wf = true := ⟨i64_wf (by unfold st1; simp only; omega), i64_wf (by unfold st1; simp only; omega)⟩
theorem stepsL_wf (zs : List Int) : ∀ x ∈ stepsL zs, (Lit.int .i64 x.1).wf = true ∧ (Lit.int .i64 x.2).wf = true := fun x hx => by
  obtain ⟨y, -, rfl⟩ := List.mem_map.1 hx
  exact st1_wf y
theorem stepsL_len (zs : List Int) : (stepsL zs).length ≤ 60 := by unfold stepsL; rw [List.length_map, List.length_take]; omega
theorem st1_snoc (zs : List Int) (k : Nat) (hk : k < zs.length) : (zs.take (k + 1)).map st1 = (zs.take k).map st1 ++ [st1 (zs.getD k 0)] := by
  rw [List.take_succ_eq_append_getElem hk, List.map_append]
  simp [List.getD, hk]

theorem steps_nil (a : Option Addr) (cap : Nat) (W : World) :
    Calls Tryd.prog 22 #[.slice a 0 cap] W fun e w' => (∃ u, e = .returned u ∧ OwnP w' W.heap.size 40 u []) ∧ Below W.heap.size W w' := by
  go_enter Tryd.func22, Tryd.ntmps22
  go_wp2
  go_loop [3, 4] (fun s i => s = .slice none 0 0 ∧ i = .int .i64 0) (fun _ _ => 0)
  case atStart => exact ⟨rfl, rfl⟩
  case round =>
    obtain ⟨rfl, rfl⟩ := hrel
    go_wp2
    go_ret
    exact ⟨⟨_, rfl, OwnP.nil _ _ _⟩, Below.refl _ _⟩

set_option maxHeartbeats 4000000 in
theorem steps_some (zs : List Int) (b off cap : Nat) (W : World) (hp : 0 < zs.length) (hm : zs.length ≤ maxLen) (hb : b < W.heap.size) (hw : ∀ z ∈ zs, (Lit.int .u16 z).wf = true)
    (hc : ∀ i, i < zs.length → W.cell? ⟨b, off + i, none⟩ = some (.int .u16 (zs.getD i 0))) :
    Calls Tryd.prog 22 #[.slice (some ⟨b, off, none⟩) zs.length cap] W fun e w' => (∃ u, e = .returned u ∧ OwnP w' W.heap.size 40 u (stepsL zs)) ∧ Below W.heap.size W w' := by
  obtain ⟨n, hn⟩ : ∃ n, zs.length = n := ⟨_, rfl⟩
  have hl : n ≤ 9223372036854775807 := by rw [← hn]; unfold maxLen at hm; omega
  have HN := Lib.hid hn
  have HW := Lib.hid hw
  rw [hn] at hp hc ⊢
  have HC := Lib.hid hc
  clear hm hn hw hc
  go_enter Tryd.func22, Tryd.ntmps22
  go_wp2
  go_loopw [3, 4] (fun v i wr => ∃ k : Nat, k ≤ n ∧ k ≤ 60 ∧ i = .int .i64 k ∧ OwnP wr W.heap.size 40 v ((zs.take k).map st1) ∧ Below W.heap.size W wr) (fun _ i _ => n - (intOf i).toNat)
  case atStart => exact ⟨0, by omega, by omega, rfl, OwnP.nil _ _ _, Below.refl _ _⟩
  case round =>
    obtain ⟨k, hk, hk6, rfl, hown, hnx⟩ := hrel
    have HO := Lib.hid hown
    have HX := Lib.hid hnx
    by_cases hlt : k < n ∧ k < 60
    · obtain ⟨hlt, hlt6⟩ := hlt
      have hck : wr.cell? ⟨b, off + k, none⟩ = some (.int .u16 (zs.getD k 0)) := (hnx.cell (p := ⟨b, off + k, none⟩) hb).trans (HC.out k hlt)
      have hk' : k < zs.length := by have := HN.out; omega
      have hzw : 0 ≤ zs.getD k 0 ∧ zs.getD k 0 ≤ 65535 := by
        have e : zs.getD k 0 = zs[k] := by simp [List.getD, hk']
        have := bounds_u16 (HW.out _ (List.getElem_mem hk'))
        rw [e]; omega
      have HZ := Lib.hid (st1_snoc zs k hk')
      have HL : Hid (((zs.take k).map st1).length ≤ 60) := Lib.hid (by rw [List.length_map, List.length_take]; omega)
      clear hown hnx hk'
      generalize zs.getD k 0 = z at *
      obtain ⟨z0, z1⟩ := hzw
      have HVS : Hid (#[Value.int .i64 ((IntKind.i64.wrap z).tmod 16), .int .i64 ((IntKind.i64.wrap ((IntKind.i64.wrap z).tdiv 16)).tmod 64)] = (cellsP [st1 z]).toArray) := Lib.hid (by
        have w1 : IntKind.i64.wrap z = z := by rw [IntWalk.i64_left]; exact IntWalk.wrap64_in _ (by omega)
        have d1 : z.tdiv 16 = z / 16 := Int.tdiv_eq_ediv_of_nonneg z0
        have w2 : IntKind.i64.wrap (z / 16) = z / 16 := by rw [IntWalk.i64_left]; exact IntWalk.wrap64_in _ (by omega)
        rw [w1, d1, w2, Int.tmod_eq_emod_of_nonneg z0, Int.tmod_eq_emod_of_nonneg (by omega : 0 ≤ z / 16)]
        rfl)
      generalize (zs.take k).map st1 = ys at *
      go_wp2
      go_region_law (refine step_append_prs rfl (.tmp 15) (.tmp 30) 30 rfl W.heap.size 40 Tryd.underlying30 info_pair (by decide) ys [st1 z] (HO.out.alloc _).drew (prs_new wr _ [st1 z] (by unfold maxLen; simp) (by intro x hx; simp at hx; subst hx; exact st1_wf z) _ HVS.out _ rfl _ rfl _).drew (by have := HL.out; simp; omega) (by have := HX.out.size; simp; omega) ?_; intro v' w2 hown2 hbel2)
      all_goals
        have H2 : Hid (OwnP w2 W.heap.size 40 v' (ys ++ [st1 z])) := Lib.hid hown2
        have H3 : Hid (Below W.heap.size W w2) := Lib.hid ((HX.out.alloc HX.out.size _).trans ⟨hbel2.os, hbel2.tape, hbel2.output, hbel2.size, hbel2.block⟩)
        clear hown2 hbel2
        go_wp2
        exact ⟨⟨k + 1, by omega, by omega, by go_num, by rw [HZ.out]; exact H2.out, H3.out⟩, by simp [intOf]; omega⟩
    · have HE : Hid (stepsL zs = (zs.take k).map st1) := Lib.hid (by
        unfold stepsL
        have : zs.take 60 = zs.take k := by
          have := HN.out
          rcases (show k = 60 ∨ k = n by omega) with e | e
          · rw [e]
          · rw [List.take_of_length_le (by omega), List.take_of_length_le (by omega)]
        rw [this])
      clear hown hnx
      rcases (show k = n ∨ (k < n ∧ k = 60) by omega) with e | ⟨e, e'⟩
      · subst e
        clear hlt
        go_wp2
        go_ret
        exact ⟨⟨_, rfl, by rw [HE.out]; exact HO.out⟩, HX.out⟩
      · subst e'
        clear hlt
        go_wp2
        go_ret
        exact ⟨⟨_, rfl, by rw [HE.out]; exact HO.out⟩, HX.out⟩

/-- **steps**, of every row of numbers. -/
theorem steps_any (zs : List Int) (v : Value) (W : World) (hI : Ints .u16 W v zs) :
    Calls Tryd.prog 22 #[v] W fun e w' => (∃ u, e = .returned u ∧ OwnP w' W.heap.size 40 u (stepsL zs)) ∧ Below W.heap.size W w' := by
  have hw := hI.wf
  rcases hI.parts with ⟨rfl, a, cap, rfl⟩ | ⟨hp, hm, b, off, cap, rfl, hb, hc⟩
  · exact steps_nil a cap W
  · exact steps_some zs b off cap W hp hm hb hw hc
end Go.Proofs.YtijbnojcehjcaaaDoor
