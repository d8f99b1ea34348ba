/-
  Contracts of turnspitref09's Empty, New and Same.
-/
import Derived.Test.YtgjacmkedgbneaaTwN
import Derived.Test.YtgjacmkedgbneaaTwQ
namespace Go.Proofs.Ytgjacmkedgbneaa
open Go.RowKit Go.Sort Ky Wd Tn Tr

theorem step_append_nodes {P : Program} {w : World} {bytes : Nat} {ops : Array Oper} {o : Oper} {a : Act} {Kk : Act → World → Prop} {Q : Exit → Act → World → Prop} {E : Prop} (hgd : o.guard = none) (s x : Operand) (t : TypeId)
    (ho : o.op = .call { callee := .builtin .append, args := #[s, x], argTypes := #[t, t] }) (B : Nat) (e : TypeId) (ht : P.underlying t = some (.slice e)) (hi : (P.info? e).map (fun i => (i.zero, i.size, i.bytes)) = some (some (.agg #[.bool false, .bool false, .int .u64 0, .int .i64 0, .int .i64 0, .int .i64 0]), 6, bytes))
    (hb : bytes ≤ 1048576) (va vx : Value) (hva : a.eval s = va) (hvx : a.eval x = vx) (zs ys : List N) (h : OwnN w B e va zs) (hx : Nds w vx ys) (hroom : zs.length + ys.length ≤ 1048576) (hB : B ≤ w.heap.size)
    (hK : ∀ v' w', OwnN w' B e v' (zs ++ ys) → Below B w w' → Kk (a.put o.dst v') w') : if Region.wanted o (yielded ops a.tmps) = true then Oper.wp P o a w Kk Q else E := by
  have hw : Region.wanted o (yielded ops a.tmps) = true := by simp [Region.wanted, hgd]
  rw [if_pos hw]
  subst hva hvx
  obtain ⟨i, hi, hz, hs1, hs2⟩ := info_parts hi
  obtain ⟨v', w', hr, h2, h3⟩ := run_append_nodes (ty := o.type) ht hi hz hs1 hs2 rfl h hx hroom hb hB
  have hbel : Below B w w' := (Below.refl B w).grown h3 hB h.lt
  unfold Oper.wp execOp
  simp only [ho, resolve, invoke, builtin, Sem.run_bind, Sem.run_pure, Result.andThen_ok, List.map_toArray, List.map_cons, List.map_nil, hr]
  exact hK v' w' h2 hbel

theorem rEmpty_at (w : World) : Calls Try.prog 38 #[] w fun e w' => e = .returned (.agg #[.bool false, .bool false, .int .u64 0, .int .i64 (-1), .int .i64 (-1), .int .i64 (-1)]) ∧ Gr w w' := by
  go_enter Try.func38, Try.ntmps38
  go_wp2
  exact bodyPost_ret (v := .agg #[.bool false, .bool false, .int .u64 0, .int .i64 (-1), .int .i64 (-1), .int .i64 (-1)]) (by simp [results, Try.results38, go_sem]) rfl ⟨rfl, Gr.alloc _ _⟩

/-- One node, just laid as a slice. -/
theorem oneN (w : World) (n : N) (hU : U n.v) : Nds (w.alloc (.cells (cellsN1 n).toArray 57)) (.slice (some ⟨w.heap.size, 0, none⟩) 1 1) [n] := by
  have hb : Nb (w.alloc (.cells (cellsN1 n).toArray 57)) w.heap.size [n] := by
    unfold Nb
    rw [heap_alloc_new]
    simp [cellsN]
  exact hb.nds (by unfold maxLen; simp) (by intro x hx; simp at hx; subst hx; exact hU)

set_option maxHeartbeats 2000000 in
set_option maxRecDepth 100000 in
theorem rSame_eq {W : World} {va vb : Value} {t : T} (hA : Nds W va t.ns) (hB : Nds W vb t.ns) :
    Calls Try.prog 15 #[.agg #[.int .i64 t.root, va], .agg #[.int .i64 t.root, vb]] W fun e w' => e = .returned (.bool true) ∧ Below W.heap.size W w' := by
  obtain ⟨a, ca, rfl, ha1, ha2⟩ := hA.len
  obtain ⟨b, cb, rfl, hb1, hb2⟩ := hB.len
  have HB0 := Lib.hid (((Below.refl W.heap.size W).alloc (Nat.le_refl _) (.cells #[.int .i64 t.root, .slice a t.ns.length ca] 24)).alloc (by simp) (.cells #[.int .i64 t.root, .slice b t.ns.length cb] 24))
  have HTA := Lib.hid ((Tb.new W t.root (.slice a t.ns.length ca) 24).below (Gr.alloc _ (.cells #[.int .i64 t.root, .slice b t.ns.length cb] 24)).below (Tb.new W t.root (.slice a t.ns.length ca) 24).lt)
  have HTB := Lib.hid (Tb.new (W.alloc (.cells #[.int .i64 t.root, .slice a t.ns.length ca] 24)) t.root (.slice b t.ns.length cb) 24)
  rw [show (W.alloc (.cells #[.int .i64 t.root, .slice a t.ns.length ca] 24)).heap.size = W.heap.size + 1 by simp] at HTB
  have HA := Lib.hid hA
  have HB := Lib.hid hB
  unfold maxLen at ha2 hb2
  have hrr : (t.root == t.root) = true := by simp
  have hll : ((t.ns.length : Int) == (t.ns.length : Int)) = true := by simp
  clear hA hB
  go_enter Try.func15, Try.ntmps15
  go_upto_region 4 with fail
  generalize (W.alloc (.cells #[.int .i64 t.root, .slice a t.ns.length ca] 24)).alloc (.cells #[.int .i64 t.root, .slice b t.ns.length cb] 24) = w1 at HTA HTB HB0 ⊢
  go_loopw [5] (fun i wr => ∃ j : Nat, j ≤ t.ns.length ∧ i = .int .i64 j ∧ Hid (Tb wr W.heap.size t.root (.slice a t.ns.length ca) 24 ∧ Tb wr (W.heap.size + 1) t.root (.slice b t.ns.length cb) 24 ∧ Below W.heap.size W wr)) (fun i _ => t.ns.length - (intOf i).toNat)
  case atStart => exact ⟨0, by omega, rfl, Lib.hid ⟨HTA.out, HTB.out, HB0.out⟩⟩
  case round =>
    obtain ⟨j, hj, rfl, HJ⟩ := hrel
    clear HTA HTB HB0
    obtain ⟨x0, x1, -, -⟩ := HJ.out.1.all
    obtain ⟨y0, y1, -, -⟩ := HJ.out.2.1.all
    by_cases hlt : j < t.ns.length
    · rcases (HA.out.below HJ.out.2.2).parts with ⟨h0, -⟩ | ⟨-, na, oa, ca', hva, -, -, hna⟩
      · rw [h0] at hlt; simp at hlt
      · rcases (HB.out.below HJ.out.2.2).parts with ⟨h0, -⟩ | ⟨-, nb, ob, cb', hvb, -, -, hnb⟩
        · rw [h0] at hlt; simp at hlt
        · simp only [Value.slice.injEq] at hva hvb
          obtain ⟨rfl, -, rfl⟩ := hva
          obtain ⟨rfl, -, rfl⟩ := hvb
          obtain ⟨p0, p1, p2, p3, p4, p5⟩ := hna j hlt
          obtain ⟨q0, q1, q2, q3, q4, q5⟩ := hnb j hlt
          generalize t.ns.getD j nE = n at p0 p1 p2 p3 p4 p5 q0 q1 q2 q3 q4 q5
          have e1 : (n.v == n.v) = true := by simp
          have e2 : (n.l == n.l) = true := by simp
          have e3 : (n.r == n.r) = true := by simp
          have e4 : (n.u == n.u) = true := by simp
          have e5 : (n.inn == n.inn) = true := by simp
          have e6 : (n.red == n.red) = true := by simp
          have hj1 : (j : Int) < (t.ns.length : Int) := by omega
          clear hna hnb
          go_wp2_with fail
          go_quiet (fail)
          have HF := Lib.hid (And.intro (HJ.out.1.below (Gr.drew wr nq).below HJ.out.1.lt) (And.intro (HJ.out.2.1.below (Gr.drew wr nq).below HJ.out.2.1.lt) (HJ.out.2.2.trans ((Gr.drew wr nq).below.mono HJ.out.2.2.size))))
          clear p0 p1 p2 p3 p4 p5 q0 q1 q2 q3 q4 q5 x0 x1 y0 y1 HJ
          generalize wr.drewN nq = w3 at HF ⊢
          go_wp2
          exact ⟨⟨j + 1, by omega, by go_num, HF⟩, by simp [intOf]; omega⟩
    · obtain rfl : j = t.ns.length := by omega
      go_wp2
      go_ret
      exact ⟨rfl, HJ.out.2.2⟩

theorem OwnN.sl {w : World} {B : Nat} {e : TypeId} {v : Value} {l : List N} (h : OwnN w B e v l) : ∃ a c, v = .slice a l.length c := by
  rcases h.2 with ⟨rfl, h0⟩ | ⟨g, cap, cur, rfl, -⟩
  · exact ⟨none, 0, by rw [h0]⟩
  · exact ⟨_, _, rfl⟩
theorem OwnN.drew {w : World} {B : Nat} {e : TypeId} {v : Value} {l : List N} (h : OwnN w B e v l) : OwnN w.drew B e v l := h
theorem OwnN.other {w : World} {B : Nat} {e : TypeId} {v : Value} {l : List N} (h : OwnN w B e v l) {q : Addr} {x : Value} (hq : q.block < B) : OwnN (w.setCell q x) B e v l := by
  refine ⟨h.1, ?_⟩
  rcases h.2 with h0 | ⟨g, cap, cur, rfl, hg, hh, rest⟩
  · exact .inl h0
  · exact .inr ⟨g, cap, cur, rfl, hg, (Below.heap_setCell _ _ _ _ (by omega)).trans hh, rest⟩
theorem Tb.storeV {w : World} {q : Nat} {x : Int} {v : Value} {ty : TypeId} (h : Tb w q x v ty) (v' : Value) : Tb (w.setCell ⟨q, 1, none⟩ v') q x v' ty := by
  unfold Tb at h ⊢
  simp only [World.setCell, Array.getElem?_modify, if_true, h]
  rfl
theorem Tb.other {w : World} {q : Nat} {x : Int} {v : Value} {ty : TypeId} (h : Tb w q x v ty) {a : Addr} {y : Value} (hne : q ≠ a.block) : Tb (w.setCell a y) q x v ty := (Below.heap_setCell _ _ _ _ hne).trans h
theorem nE_U : U nE.v := ⟨by decide, by decide⟩

set_option maxHeartbeats 2000000 in
set_option maxRecDepth 100000 in
theorem rNew_at (n : Int) (W : World) :
    Calls Try.prog 26 #[.int .i64 n] W fun en w' => ∃ a cap, en = .returned (.tuple #[.agg #[.int .i64 (newT n).root, .slice a (newT n).ns.length cap], .int .i64 (newE n)]) ∧ Nds w' (.slice a (newT n).ns.length cap) (newT n).ns ∧ Below W.heap.size W w' := by
  have HB1 : Hid (Below W.heap.size W (W.alloc (.cells #[.int .i64 0, .slice none 0 0] 24))) := Lib.hid ((Below.refl _ _).alloc (Nat.le_refl _) _)
  have HR1 := Lib.hid (Tb.new W 0 (.slice none 0 0) 24)
  by_cases hn : 0 ≤ n ∧ n ≤ 64
  · obtain ⟨k, rfl⟩ : ∃ k : Nat, n = k := ⟨n.toNat, by omega⟩
    have ET : Hid (newT k = ⟨-1, List.replicate k nE⟩ ∧ newE k = 0) := Lib.hid (by unfold newT newE; rw [if_pos hn, if_pos hn]; exact ⟨by simp, rfl⟩)
    rw [ET.out.1, ET.out.2]
    simp only [List.length_replicate]
    have hk : k ≤ 64 := by omega
    have hk0 : (0 : Int) ≤ k := by omega
    have hk64 : (k : Int) ≤ 64 := by omega
    have HB2 := Lib.hid (HB1.out.alloc HB1.out.size (.cells #[.int .i64 (-1), .slice none 0 0] 24))
    have HR2 := Lib.hid (HR1.out.below (Gr.alloc _ (.cells #[.int .i64 (-1), .slice none 0 0] 24)).below HR1.out.lt)
    have HT2 := Lib.hid (Tb.new (W.alloc (.cells #[.int .i64 0, .slice none 0 0] 24)) (-1) (.slice none 0 0) 24)
    rw [show (W.alloc (.cells #[.int .i64 0, .slice none 0 0] 24)).heap.size = W.heap.size + 1 by simp] at HT2
    have HSZ : Hid (((W.alloc (.cells #[.int .i64 0, .slice none 0 0] 24)).alloc (.cells #[.int .i64 (-1), .slice none 0 0] 24)).heap.size = W.heap.size + 2) := Lib.hid (by simp)
    clear hn ET HB1 HR1
    go_enter Try.func26, Try.ntmps26
    go_upto_region 5 with fail
    generalize (W.alloc (.cells #[.int .i64 0, .slice none 0 0] 24)).alloc (.cells #[.int .i64 (-1), .slice none 0 0] 24) = w2 at HB2 HR2 HT2 HSZ ⊢
    go_loopw [5] (fun i wr => ∃ j : Nat, j ≤ k ∧ i = .int .i64 j ∧ Hid (∃ a c, Tb wr (W.heap.size + 1) (-1) (.slice a j c) 24 ∧ OwnN wr (W.heap.size + 2) 57 (.slice a j c) (List.replicate j nE) ∧ Tb wr W.heap.size 0 (.slice none 0 0) 24 ∧ Below W.heap.size W wr)) (fun i _ => k - (intOf i).toNat)
    case atStart => exact ⟨0, by omega, rfl, Lib.hid ⟨none, 0, HT2.out, OwnN.nil _ _ _, HR2.out, HB2.out⟩⟩
    case round =>
      obtain ⟨j, hj, rfl, HJ⟩ := hrel
      obtain ⟨a, c, hT, hO, hR, hB⟩ := HJ.out
      have HT := Lib.hid hT
      have HO := Lib.hid hO
      have HR := Lib.hid hR
      have HB := Lib.hid hB
      clear HB2 HR2 HT2 HSZ HJ hO hR hB
      obtain ⟨x0, x1, x2, x3⟩ := hT.all
      clear hT
      by_cases hlt : j < k
      · have HEM := Lib.hid (rEmpty_at wr.drew)
        have HTD : Hid (Tb wr.drew (W.heap.size + 1) (-1) (.slice a j c) 24) := HT
        have HLT := Lib.hid HT.out.lt
        have HSX : Hid (∀ X, Below (W.heap.size + 2) wr.drew X → Tb X (W.heap.size + 1) (-1) (.slice a j c) 24) := Lib.hid (fun X hX => HTD.out.below hX (by omega))
        have HSY : Hid (∀ X, Below (W.heap.size + 2) wr.drew X → X.cell? ⟨W.heap.size + 1, 0, none⟩ = some (.int .i64 (-1)) ∧ X.cell? ⟨W.heap.size + 1, 1, none⟩ = some (.slice a j c) ∧ X.frozen? ⟨W.heap.size + 1, 0, none⟩ = false ∧ X.frozen? ⟨W.heap.size + 1, 1, none⟩ = false) := Lib.hid (fun X hX => (HSX.out X hX).all)
        have HGB : Hid (∀ w2, Gr wr.drew w2 → Below (W.heap.size + 2) wr.drew w2) := Lib.hid (fun w2 hg => hg.below.mono (by show W.heap.size + 2 ≤ wr.heap.size; have := HLT.out; omega))
        have HGS : Hid (∀ w3, Gr wr.drew w3 → W.heap.size + 2 ≤ (w3.alloc (.cells (cellsN1 nE).toArray 57)).heap.size) := Lib.hid (fun w3 hg => by
          have h1 := hg.below.size
          have h2 := HLT.out
          have h3 : wr.drew.heap.size = wr.heap.size := rfl
          simp
          omega)
        have HGZ : Hid (∀ w3, Gr wr.drew w3 → W.heap.size + 1 < w3.heap.size) := Lib.hid (fun w3 hg => by
          have h1 := hg.below.size
          have h2 := HLT.out
          have h3 : wr.drew.heap.size = wr.heap.size := rfl
          omega)
        have HGA : Hid (∀ w3 w4, Gr wr.drew w3 → Below (W.heap.size + 2) (w3.alloc (.cells (cellsN1 nE).toArray 57)) w4 → Below (W.heap.size + 2) wr.drew w4) := Lib.hid (fun w3 w4 hg hb => ((HGB.out w3 hg).trans ((Gr.alloc w3 _).below.mono (Nat.le_trans (by have := HLT.out; show W.heap.size + 2 ≤ wr.drew.heap.size; show W.heap.size + 2 ≤ wr.heap.size; omega) hg.below.size))).trans hb)
        go_wp2_with fail
        go_region_law (first
          | (refine step_append_nodes rfl (.tmp 20) (.tmp 22) 22 rfl (W.heap.size + 2) 57 Try.underlying22 info_node (by decide) (.slice a j c) (.slice (some ⟨w3.heap.size, 0, none⟩) 1 1) (by simp [Act.eval]) (by simp [Act.eval]) (List.replicate j nE) [nE] ((HO.out.drew.below hg3.below).alloc _) (oneN w3 nE nE_U) (by simp; omega) (HGS.out w3 hg3) ?_; intro v4 w4 hO4 hb4; obtain ⟨a4, c4, rfl⟩ := hO4.sl; obtain ⟨y0, y1, y2, y3⟩ := HSY.out _ (HGA.out w3 w4 hg3 hb4))
          | (go_simp; go_at_call 38; refine HEM.out.mono ?_; rintro e' w3 ⟨rfl, hg3⟩; obtain ⟨z0, z1, z2, z3⟩ := HSY.out _ (HGB.out _ hg3); have z4 := HGZ.out _ hg3))
        all_goals
          have HX : Hid (Below (W.heap.size + 2) wr.drew w4) := Lib.hid (HGA.out w3 w4 hg3 hb4)
          have HF : Hid (∃ a c, Tb (w4.setCell ⟨W.heap.size + 1, 1, none⟩ (.slice a4 (j + 1) c4)) (W.heap.size + 1) (-1) (.slice a (j + 1) c) 24 ∧ OwnN (w4.setCell ⟨W.heap.size + 1, 1, none⟩ (.slice a4 (j + 1) c4)) (W.heap.size + 2) 57 (.slice a (j + 1) c) (List.replicate (j + 1) nE) ∧ Tb (w4.setCell ⟨W.heap.size + 1, 1, none⟩ (.slice a4 (j + 1) c4)) W.heap.size 0 (.slice none 0 0) 24 ∧ Below W.heap.size W (w4.setCell ⟨W.heap.size + 1, 1, none⟩ (.slice a4 (j + 1) c4))) := Lib.hid (by
            have hlen : (List.replicate j nE ++ [nE]).length = j + 1 := by simp
            have hO5 := hO4
            rw [hlen] at hO5
            rw [← List.replicate_succ'] at hO5
            refine ⟨a4, c4, (HSX.out _ HX.out).storeV _, hO5.other (by show W.heap.size + 1 < W.heap.size + 2; omega), ?_, ?_⟩
            · exact (((show Tb wr.drew W.heap.size 0 (.slice none 0 0) 24 from HR.out).below HX.out (by omega))).other (by show W.heap.size ≠ W.heap.size + 1; omega)
            · exact ((HB.out.drew).trans (HX.out.mono (by omega))).setCell (p := ⟨W.heap.size + 1, 1, none⟩) (by show W.heap.size ≤ W.heap.size + 1; omega) _)
          clear hO4 hb4 hg3 HX HSX HSY HGB HGS HGA HGZ HEM HTD HLT HT HO HR HB
          go_wp2
          exact ⟨⟨j + 1, by omega, by go_num, HF⟩, by simp [intOf]; omega⟩
      · obtain rfl : j = k := by omega
        obtain ⟨r0, r1, r2, r3⟩ := HR.out.all
        have HS6 := Lib.hid (HR.out.store (-1) (.slice a j c)).all
        have HB6 := Lib.hid ((HB.out.setCell (p := ⟨W.heap.size, 0, none⟩) (Nat.le_refl _) (.int .i64 (-1))).setCell (p := ⟨W.heap.size, 1, none⟩) (Nat.le_refl _) (.slice a j c))
        have HN6 := Lib.hid ((((HO.out.other (q := ⟨W.heap.size, 0, none⟩) (x := .int .i64 (-1)) (by show W.heap.size < W.heap.size + 2; omega)).other (q := ⟨W.heap.size, 1, none⟩) (x := .slice a j c) (by show W.heap.size < W.heap.size + 2; omega))).nds (by intro x hx; obtain ⟨-, rfl⟩ := List.mem_replicate.1 hx; exact nE_U))
        go_wp2
        obtain ⟨z0, z1, -, -⟩ := HS6.out
        exact bodyPost_ret (v := .tuple #[.agg #[.int .i64 (-1), .slice a j c], .int .i64 0]) (by simp [results, Try.results26, go_sem, z0, z1]) rfl ⟨a, c, rfl, HN6.out, HB6.out⟩
  · have ET : Hid (newT n = ⟨0, []⟩ ∧ newE n = 1) := Lib.hid (by unfold newT newE; rw [if_neg hn, if_neg hn]; exact ⟨rfl, rfl⟩)
    rw [ET.out.1, ET.out.2]
    have HF : Hid (Below W.heap.size W _) := HB1
    by_cases h0 : n < 0
    · clear hn ET
      go_enter Try.func26, Try.ntmps26
      go_wp2
      exact bodyPost_ret (v := .tuple #[.agg #[.int .i64 0, .slice none 0 0], .int .i64 1]) (by simp [results, Try.results26, go_sem]) rfl ⟨none, 0, rfl, nil_nds _, HF.out⟩
    · have h1 : 64 < n := by omega
      clear hn ET
      go_enter Try.func26, Try.ntmps26
      go_wp2
      exact bodyPost_ret (v := .tuple #[.agg #[.int .i64 0, .slice none 0 0], .int .i64 1]) (by simp [results, Try.results26, go_sem]) rfl ⟨none, 0, rfl, nil_nds _, HF.out⟩
end Go.Proofs.Ytgjacmkedgbneaa
