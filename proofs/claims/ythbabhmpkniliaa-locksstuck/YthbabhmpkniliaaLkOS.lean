/-
  Contract of the document's own Stuck.
-/
import Derived.Test.YthbabhmpkniliaaLkOT
namespace Go.Proofs.Ythbabhmpkniliaa
open Go.RowKit Go.ChangeAt Go.ChangeShapes Go.WideShapes Lk

theorem I_of_wf {x : Int} (h : (Lit.int .i64 x).wf = true) : I x := by
  simp only [Lit.wf, IntKind.min, IntKind.max, IntKind.signed, IntKind.bits, Bool.and_eq_true, decide_eq_true_eq, if_true] at h
  unfold I; omega

def lenV : Value → Nat | .slice _ n _ => n | _ => 0
def boolV : Value → Nat | .bool true => 1 | _ => 0

set_option maxHeartbeats 4000000 in
set_option maxRecDepth 100000 in
theorem rstuck_any {W : World} {v : Value} {ws : List Wt} (h : Wts W v ws) (hP : (allP ws ws.length).length ≤ 200) : Calls Try.prog 22 #[v] W (Stuckd W ws) := by
  obtain ⟨a, cap, rfl, hc⟩ := h.parts
  unfold Stuckd
  by_cases h64 : 64 < ws.length
  · rw [(stuckR_long h64).1, (stuckR_long h64).2]
    have hd : decide ((ws.length : Int) > 64) = true := decide_eq_true (by omega)
    clear h hc hP
    go_enter Try.func22, Try.ntmps22
    go_wp2
    go_ret2
    exact ⟨⟨_, rfl, nil_own _⟩, Below.refl _ _⟩
  · have hd : decide ((ws.length : Int) > 64) = false := decide_eq_false (by omega)
    have hn : ws.length ≤ 64 := by omega
    have HC := Lib.hid hc
    have HWT := Lib.hid h
    have HP := Lib.hid hP
    have HWF : Hid (∀ j z, z ∈ holdsW ws j → (Lit.int .i64 z).wf = true) := Lib.hid (fun j z hz => by
      by_cases hj : j < ws.length
      · rcases hc with e | ⟨b, off, -, -, hcs⟩
        · rw [e] at hj; simp at hj
        · obtain ⟨u, -, hI, -⟩ := hcs j hj
          exact hI.wf z hz
      · unfold holdsW at hz
        simp [List.getD, hj, wE] at hz)
    have HPF : Hid (∀ k, ∀ p ∈ allP ws k, (Lit.int .i64 p.1).wf = true) := Lib.hid (fun k p hp => by
      obtain ⟨j, -, -, hm⟩ := (mem_allP (x := p.1) (y := p.2)).1 hp
      exact HWF.out j _ hm)
    have hms : ∀ E : Int, (∃ v', Ending.returned (.tuple #[.slice none 0 0, .int .i64 E]) = Ending.returned (.tuple #[v', .int .i64 E]) ∧ Ints .i64 W v' []) := fun E => ⟨_, rfl, nil_own _⟩
    clear hc h hP h64 hms
    go_enter Try.func22, Try.ntmps22
    go_wp2
    go_loopw [4, 5, 6] (fun x y u wr => ∃ (k : Nat) (X Y : Value), k ≤ ws.length ∧ u = .int .i64 k ∧ X = x ∧ Y = y ∧ Hid (okP (allP ws k) ∧ (∀ i, i < k → wantsW ws i ∉ holdsW ws i) ∧ Two W.heap.size W wr X Y ((allP ws k).map Prod.fst) (upL k))) (fun _ _ u _ => ws.length - (intOf u).toNat)
    case atStart => exact ⟨0, _, _, by omega, rfl, rfl, rfl, Lib.hid ⟨⟨by simp [allP], by simp [allP]⟩, fun i hi => absurd hi (Nat.not_lt_zero _), by simpa [allP, upL] using Two.nil (Below.refl W.heap.size W) (Nat.le_refl _)⟩⟩
    case round =>
      obtain ⟨k, X, Y, hk, rfl, rfl, rfl, HR⟩ := hrel
      by_cases hlt : k < ws.length
      · obtain ⟨b, off, rfl, hbl, hcs⟩ : ∃ b off, a = some ⟨b, off, none⟩ ∧ b < W.heap.size ∧ ∀ i, i < ws.length → ∃ u, W.cell? ⟨b, off + i * 2, none⟩ = some u ∧ Ints .i64 W u (ws.getD i wE).1 ∧ W.cell? ⟨b, off + i * 2 + 1, none⟩ = some (.int .i64 (ws.getD i wE).2) := by
          rcases HC.out with h | h
          · rw [h] at hlt; simp at hlt
          · exact h
        obtain ⟨u, hu, hI, hx⟩ := hcs k hlt
        have HI := Lib.hid hI
        obtain ⟨au, cu, e1⟩ := ints_shape hI
        obtain ⟨hl, hhl⟩ : ∃ hl, (ws.getD k wE).1 = hl := ⟨_, rfl⟩
        obtain ⟨y0, hy0⟩ : ∃ y0, (ws.getD k wE).2 = y0 := ⟨_, rfl⟩
        rw [hhl] at e1 HI
        rw [hy0] at hx
        subst e1
        have HHL : Hid (holdsW ws k = hl) := Lib.hid hhl
        have HY : Hid (wantsW ws k = y0) := Lib.hid hy0
        have HU := Lib.hid (And.intro hu hx)
        have HBL := Lib.hid hbl
        have HLM : Hid (hl.length ≤ 200) := Lib.hid (by
          have := allP_len_le ws (show k + 1 ≤ ws.length by omega)
          rw [allP_succ, List.length_append, pairs_len, HHL.out] at this
          have := HP.out
          omega)
        have hlm := HLM.out
        clear hcs hu hI hx hhl hy0
        go_wp2
        go_loopw [4, 7] (fun x u wq => ∃ (q : Nat) (X : Value), q ≤ hl.length ∧ u = .int .i64 q ∧ X = x ∧ Hid (okP (allP ws k ++ pairsOf k (hl.take q)) ∧ (∀ i, i < k → wantsW ws i ∉ holdsW ws i) ∧ Two W.heap.size W wq X Y ((allP ws k ++ pairsOf k (hl.take q)).map Prod.fst) (upL k))) (fun _ u _ => hl.length - (intOf u).toNat)
        case atStart =>
          refine ⟨0, _, by omega, rfl, rfl, Lib.hid ?_⟩
          rw [List.take_zero, show pairsOf k [] = [] from rfl, List.append_nil]
          exact HR.out
        case round =>
          obtain ⟨q, X1, hq, rfl, rfl, HX⟩ := hrel
          obtain ⟨hok, hwn, hT⟩ := HX.out
          have HT := Lib.hid hT
          have HOK := Lib.hid hok
          have HWN := Lib.hid hwn
          have hu1 := (hT.b.cell (p := ⟨b, off + k * 2, none⟩) HBL.out).trans HU.out.1
          have hx1 := (hT.b.cell (p := ⟨b, off + k * 2 + 1, none⟩) HBL.out).trans HU.out.2
          clear hok hwn HR
          by_cases hlq : q < hl.length
          · rcases HI.out.parts with ⟨h0, -⟩ | ⟨-, -, bq, oq, cq, e, hbq, hcq⟩
            · rw [h0] at hlq; simp at hlq
            obtain rfl : au = some ⟨bq, oq, none⟩ := by simp only [Value.slice.injEq] at e; exact e.1
            have hcc := (hT.b.cell (p := ⟨bq, oq + q, none⟩) hbq).trans (hcq q hlq)
            obtain ⟨x, hx⟩ : ∃ x, hl.getD q 0 = x := ⟨_, rfl⟩
            rw [hx] at hcc
            have HXM : Hid (x ∈ holdsW ws k) := Lib.hid (by rw [HHL.out, ← hx]; simp [List.getD, hlq])
            have HPT : Hid (pairsOf k (hl.take (q + 1)) = pairsOf k (hl.take q) ++ [(x, (k : Int))]) := Lib.hid (by rw [pairs_take hlq, hx])
            have HPX := part_prefix ws (q := q + 1) hlt
            rw [HHL.out, HPT.out, ← List.append_assoc] at HPX
            replace HPX := Lib.hid HPX
            have HPL : Hid ((allP ws k ++ pairsOf k (hl.take q)).length ≤ 200) := Lib.hid (by
              obtain ⟨t, ht⟩ := HPX.out
              have := HP.out
              rw [ht] at this
              simp only [List.length_append, List.length_cons, List.length_nil] at this ⊢
              omega)
            generalize hps : allP ws k ++ pairsOf k (hl.take q) = ps at HX HPX HPL HT HOK
            have HPS := Lib.hid hps
            have HIM : Hid (Ints .i64 wr X1 (ps.map Prod.fst)) := Lib.hid (HT.out.ox.ints (fun z hz => by
              obtain ⟨p, hp, rfl⟩ := List.mem_map.1 hz
              obtain ⟨t, ht⟩ := HPX.out
              exact HPF.out ws.length p (by rw [ht]; simp [hp])))
            clear hps hT hcq e hx HX
            by_cases hx0 : x < 0
            · have hd1 : decide (x < 0) = true := decide_eq_true hx0
              have HNO : Hid (¬ okW ws) := Lib.hid (fun hall => by
                have h1 := hall.1
                obtain ⟨t, ht⟩ := HPX.out
                rw [ht] at h1
                have := ((okP_snoc HOK.out).1 (okP_prefix h1)).1
                omega)
              clear hx0
              go_wp2
              go_ret2
              exact ⟨⟨.slice none 0 0, by rw [(stuckR_arg hn HNO.out).1]; rfl, by rw [(stuckR_arg hn HNO.out).2]; exact nil_own _⟩, HT.out.b⟩
            · have hd1 : decide (x < 0) = false := decide_eq_false hx0
              have HX0 := Lib.hid hx0
              clear hx0
              go_wp2_with fail
              refine (rin_at x HIM.out).mono ?_
              rintro e w5 ⟨rfl, rfl⟩
              by_cases hm : x ∈ ps.map Prod.fst
              · have hd2 : decide (x ∈ ps.map Prod.fst) = true := decide_eq_true hm
                have HNO : Hid (¬ okW ws) := Lib.hid (fun hall => by
                  have h1 := hall.1
                  obtain ⟨t, ht⟩ := HPX.out
                  rw [ht] at h1
                  exact metL_mem.1 hm ((okP_snoc HOK.out).1 (okP_prefix h1)).2)
                rw [hd2]
                clear hm hd2
                go_wp2
                go_ret2
                exact ⟨⟨.slice none 0 0, by rw [(stuckR_arg hn HNO.out).1]; rfl, by rw [(stuckR_arg hn HNO.out).2]; exact nil_own _⟩, HT.out.b⟩
              · have hd2 : decide (x ∈ ps.map Prod.fst) = false := decide_eq_false hm
                have HFX : Hid (hf ps x = none) := Lib.hid (Classical.not_not.1 (fun h => hm (metL_mem.2 h)))
                have HOK2 : Hid (okP (ps ++ [(x, (k : Int))])) := Lib.hid ((okP_snoc HOK.out).2 ⟨by have := HX0.out; omega, HFX.out⟩)
                have HT2 := Lib.hid (HT.out.below ((Below.refl wr.heap.size wr).alloc (Nat.le_refl _) (.cells #[.int .i64 x] 3)))
                rw [hd2]
                clear hm hd2
                go_wp2_with (at_builtin; refine wpList_append_one rfl (.tmp 48) (.tmp 50) 22 rfl W.heap.size 3 Try.underlying22 ints_info (by decide) X1 rfl (ps.map Prod.fst) HT2.out.ox x wr.heap.size 1 rfl (at_new wr (.int .i64 x) 3).1 (by have := HPL.out; rw [List.length_map]; omega) HT2.out.s ?_; intro v' w6 hO hg hloc)
                refine ⟨⟨q + 1, v', by omega, by go_num, rfl, Lib.hid ?_⟩, by simp [intOf]; omega⟩
                rw [HPT.out, ← List.append_assoc, HPS.out]
                exact ⟨HOK2.out, HWN.out, HT2.out.push (by rw [List.map_append]; exact hO) hg hloc⟩
          · obtain rfl : q = hl.length := by omega
            have HX2 := HX.out
            rw [List.take_length, ← HHL.out, ← allP_succ] at HX2
            replace HX2 := Lib.hid HX2
            have hTX := HX2.out.2.2
            have HTX := Lib.hid hTX
            have HIN : Hid (∀ q, Calls Try.prog 33 #[.slice au hl.length cu, .int .i64 y0] (wr.drewN q) fun e w' => e = .returned (.bool (decide (y0 ∈ hl))) ∧ w' = wr.drewN q) := Lib.hid (fun q => (rin_at y0 (HI.out.below (below_drewN (HTX.out.b) q))).mono fun e w' h => ⟨h.1, h.2.symm⟩)
            clear HX HT HOK hT hTX
            by_cases hm : y0 ∈ hl
            · have hd2 : decide (y0 ∈ hl) = true := decide_eq_true hm
              have HNO : Hid (¬ okW ws) := Lib.hid (fun hall => hall.2 k hlt (by rw [HHL.out, HY.out]; exact hm))
              rw [hd2] at HIN
              clear hm hd2
              go_wp2
              go_quiet ((go_at_call 33; refine Calls.quiet_of_same (HIN.out _)))
              go_wp2
              go_ret2
              exact ⟨⟨.slice none 0 0, by rw [(stuckR_arg hn HNO.out).1]; rfl, by rw [(stuckR_arg hn HNO.out).2]; exact nil_own _⟩, below_drewN HTX.out.b _⟩
            · have hd2 : decide (y0 ∈ hl) = false := decide_eq_false hm
              have HWN2 : Hid (∀ i, i < k + 1 → wantsW ws i ∉ holdsW ws i) := Lib.hid (fun i hi => by
                rcases (show i < k ∨ i = k by omega) with h | rfl
                · exact HWN.out i h
                · rw [HHL.out, HY.out]; exact hm)
              rw [hd2] at HIN
              have HOK3 := Lib.hid HX2.out.1
              clear hm hd2 HX2
              go_wp2
              go_quiet ((go_at_call 33; refine Calls.quiet_of_same (HIN.out _)))
              have HT3 := Lib.hid (HTX.out.below ((Below.refl wr.heap.size wr).trans (below_drewN (Below.refl _ wr) nq)))
              clear HTX HIN
              generalize wr.drewN nq = wd at *
              have HT4 := Lib.hid (HT3.out.below ((Below.refl wd.heap.size wd).alloc (Nat.le_refl _) (.cells #[.int .i64 (k : Int)] 3)))
              go_wp2_with (at_builtin; refine wpList_append_one rfl (.tmp 63) (.tmp 65) 22 rfl W.heap.size 3 Try.underlying22 ints_info (by decide) Y rfl (upL k) HT4.out.oy (k : Int) wd.heap.size 1 rfl (at_new wd (.int .i64 (k : Int)) 3).1 (by unfold upL; rw [List.length_map, List.length_range]; omega) HT4.out.s ?_; intro v' w6 hO hg hloc)
              refine ⟨⟨k + 1, X1, v', by omega, by go_num, rfl, rfl, Lib.hid ?_⟩, by simp [intOf]; omega⟩
              exact ⟨HOK3.out, HWN2.out, (HT4.out.flip.push (by rw [upL_succ]; exact hO) hg hloc).flip⟩
      · obtain rfl : k = ws.length := by omega
        have HOKW : Hid (okW ws) := Lib.hid ⟨HR.out.1, HR.out.2.1⟩
        have HTY := Lib.hid HR.out.2.2
        clear HR HWF HPF
        go_wp2
        go_loopw [5, 9, 10, 11, 12, 13] (fun st mr nx i x12 x13 wz => ∃ (S : List Nat) (X2 : Value) (mb : Bool), X2 = st ∧ mr = .bool mb ∧ Hid (lenV X2 = S.length ∧ Lft ws S ∧ Own .i64 wz W.heap.size 3 X2 (S.map Int.ofNat) ∧ Below W.heap.size W wz ∧ W.heap.size ≤ wz.heap.size ∧ (mb = false → ∀ i ∈ S, Stays ws S i))) (fun st mr _ _ _ _ _ => 2 * lenV st + boolV mr)
        case atStart =>
          refine ⟨List.range ws.length, Y, true, rfl, rfl, Lib.hid ⟨?_, Lft.all, HTY.out.oy, HTY.out.b, HTY.out.s, by simp⟩⟩
          obtain ⟨ay, cy, hy⟩ := own_shape HTY.out.oy
          rw [hy]; simp [lenV, upL]
        case round =>
          obtain ⟨S, X2, mb, rfl, rfl, HS⟩ := hrel
          obtain ⟨hlv, hlf, hox, hbw, hsw, hst⟩ := HS.out
          have hS64 : S.length ≤ 64 := by have := hlf.len; omega
          have hSwf : ∀ z ∈ S.map Int.ofNat, (Lit.int .i64 z).wf = true := by
            intro z hz
            obtain ⟨i, hi, rfl⟩ := List.mem_map.1 hz
            have := hlf.lt hi
            exact i64_wf (by simp only [Int.ofNat_eq_natCast]; omega)
          have HSWF := Lib.hid hSwf
          have HLF := Lib.hid hlf
          obtain ⟨ax, cx, he2⟩ := own_shape hox
          rw [List.length_map] at he2
          subst he2
          cases mb with
          | false =>
            have HEND : Hid (stuckE ws = 0 ∧ stuckR ws = S.map Int.ofNat) := Lib.hid ⟨(stuckR_ok hn HOKW.out).1, (stuckR_ok hn HOKW.out).2.trans (hlf.ends (hst rfl)).symm⟩
            have HIE := Lib.hid (hox.ints hSwf)
            have HBE := Lib.hid hbw
            clear hlv hlf hox hbw hsw hst HS hSwf
            go_wp2
            go_ret2
            exact ⟨⟨_, by rw [HEND.out.1]; rfl, by rw [HEND.out.2]; exact HIE.out⟩, HBE.out⟩
          | true =>
            have HT0 : Hid (Two W.heap.size W wr (.slice none 0 0) (.slice ax S.length cx) [] (S.map Int.ofNat)) := Lib.hid ⟨Own.nil _ _ _ _, hox, .inl rfl, hbw, hsw⟩
            clear hlv hlf hox hbw hsw hst HS hSwf
            go_wp2
            go_loopw [9, 10, 11, 12, 13] (fun mr nx i y12 y13 wq => ∃ (q : Nat) (mb : Bool) (NX : Value), q ≤ S.length ∧ i = .int .i64 q ∧ mr = .bool mb ∧ NX = nx ∧ Hid (Two W.heap.size W wq NX (.slice ax S.length cx) ((nextS ws S (S.take q)).map Int.ofNat) (S.map Int.ofNat) ∧ (mb = true ↔ ∃ i ∈ S.take q, ¬ Stays ws S i))) (fun _ _ i _ _ _ => S.length - (intOf i).toNat)
            case atStart =>
              refine ⟨0, false, _, by omega, rfl, rfl, rfl, Lib.hid ⟨?_, by simp⟩⟩
              rw [List.take_zero, show nextS ws S [] = [] by unfold nextS; rfl, List.map_nil]
              exact HT0.out
            case round =>
              obtain ⟨q, mb, NX, hq, rfl, rfl, rfl, HQ⟩ := hrel
              obtain ⟨hT, hmb⟩ := HQ.out
              have HT := Lib.hid hT
              have HMB := Lib.hid hmb
              clear HQ hmb HT0
              by_cases hlq : q < S.length
              · obtain ⟨z, hz⟩ : ∃ z, S.getD q 0 = z := ⟨_, rfl⟩
                have hzm : z ∈ S := by rw [← hz]; simp [List.getD, hlq]
                have hzl : z < ws.length := HLF.out.lt hzm
                have htk : S.take (q + 1) = S.take q ++ [z] := by
                  rw [List.take_succ_eq_append_getElem hlq]; congr 1; rw [← hz]; simp [List.getD, hlq]
                have HTK := Lib.hid htk
                obtain ⟨b, off, rfl, hbl, hcs⟩ : ∃ b off, a = some ⟨b, off, none⟩ ∧ b < W.heap.size ∧ ∀ i, i < ws.length → ∃ u, W.cell? ⟨b, off + i * 2, none⟩ = some u ∧ Ints .i64 W u (ws.getD i wE).1 ∧ W.cell? ⟨b, off + i * 2 + 1, none⟩ = some (.int .i64 (ws.getD i wE).2) := by
                  rcases HC.out with h | h
                  · rw [h] at hzl; simp at hzl
                  · exact h
                obtain ⟨u, -, -, hx⟩ := hcs z hzl
                have hcw := (hT.b.cell (p := ⟨b, off + z * 2 + 1, none⟩) hbl).trans hx
                obtain ⟨wt, hwt⟩ : ∃ wt, wantsW ws z = wt := ⟨_, rfl⟩
                have hwt2 : (ws.getD z wE).2 = wt := hwt
                rw [hwt2] at hcw
                have hIS := hT.oy.ints HSWF.out
                have HIS := Lib.hid hIS
                obtain ⟨bs, os, rfl, hcz⟩ : ∃ bs os, ax = some ⟨bs, os, none⟩ ∧ wr.cell? ⟨bs, os + q, none⟩ = some (.int .i64 (z : Int)) := by
                  rcases hIS.parts with ⟨h0, -⟩ | ⟨-, -, bs, os, cs, e, -, h9⟩
                  · simp at h0; rw [h0] at hlq; simp at hlq
                  · simp only [Value.slice.injEq] at e
                    refine ⟨bs, os, e.1, ?_⟩
                    have := h9 q (by rw [List.length_map]; exact hlq)
                    rw [this, ← hz]
                    simp [List.getD, hlq]
                have HSZ : Hid (∀ i ∈ S.map Int.ofNat, 0 ≤ i ∧ i < ws.length) := Lib.hid (fun i hi => by
                  obtain ⟨j, hj, rfl⟩ := List.mem_map.1 hi
                  have := HLF.out.lt hj
                  simp only [Int.ofNat_eq_natCast]; omega)
                have HWV : Hid (Wts wr (.slice (some ⟨b, off, none⟩) ws.length cap) ws) := Lib.hid (HWT.out.below hT.b)
                have HSTA : Hid (∀ r : Int, (0 ≤ r ↔ ∃ i ∈ S.map Int.ofNat, wt ∈ holdsW ws i.toNat) → (Stays ws S z ↔ 0 ≤ wt ∧ 0 ≤ r)) := Lib.hid (fun r hr => by
                  unfold Stays
                  rw [hwt, hr]
                  constructor
                  · rintro ⟨h1, j, hj, hm⟩
                    exact ⟨h1, (j : Int), List.mem_map.2 ⟨j, hj, rfl⟩, by simpa using hm⟩
                  · rintro ⟨h1, i, hi, hm⟩
                    obtain ⟨j, hj, rfl⟩ := List.mem_map.1 hi
                    exact ⟨h1, j, hj, by simpa using hm⟩)
                have HY2 := Lib.hid (fun h => nextS_snoc_yes (ws := ws) (S := S) (T := S.take q) (i := z) h)
                have HN2 := Lib.hid (fun h => nextS_snoc_no (ws := ws) (S := S) (T := S.take q) (i := z) h)
                have HNL : Hid ((nextS ws S (S.take q)).length ≤ 64) := Lib.hid (Nat.le_trans nextS_len (by rw [List.length_take]; omega))
                have hzw : (z : Int) < ws.length := by omega
                clear hcs hx hT hIS hwt hwt2 htk hz
                go_wp2_with fail
                refine (rholder_any HWV.out HIS.out HSZ.out wt).mono ?_
                rintro e w5 ⟨⟨r, rfl, hr⟩, rfl⟩
                have HST := Lib.hid (HSTA.out r hr)
                clear hr HSTA
                by_cases hw0 : 0 ≤ wt
                · by_cases hr0 : 0 ≤ r
                  · have HS1 : Hid (Stays ws S z) := Lib.hid (HST.out.2 ⟨hw0, hr0⟩)
                    have HT4 := Lib.hid (HT.out.below ((Below.refl wr.heap.size wr).alloc (Nat.le_refl _) (.cells #[.int .i64 (z : Int)] 3)))
                    go_wp2_with (at_builtin; refine wpList_append_one rfl (.tmp 92) (.tmp 97) 22 rfl W.heap.size 3 Try.underlying22 ints_info (by decide) NX rfl ((nextS ws S (S.take q)).map Int.ofNat) HT4.out.ox (z : Int) wr.heap.size 1 rfl (at_new wr (.int .i64 (z : Int)) 3).1 (by have := HNL.out; rw [List.length_map]; omega) HT4.out.s ?_; intro v' w6 hO hg hloc)
                    refine ⟨⟨q + 1, mb, v', by omega, by go_num, rfl, rfl, Lib.hid ⟨?_, ?_⟩⟩, by simp [intOf]; omega⟩
                    · rw [HTK.out, HY2.out HS1.out, List.map_append]
                      exact HT4.out.push hO hg hloc
                    · rw [HTK.out, HMB.out]
                      constructor
                      · rintro ⟨i, hi, hn⟩; exact ⟨i, List.mem_append_left _ hi, hn⟩
                      · rintro ⟨i, hi, hn⟩
                        rcases List.mem_append.1 hi with h | h
                        · exact ⟨i, h, hn⟩
                        · rw [List.mem_singleton.1 h] at hn; exact absurd HS1.out hn
                  · have HS1 : Hid (¬ Stays ws S z) := Lib.hid (fun h => hr0 (HST.out.1 h).2)
                    go_wp2
                    refine ⟨⟨q + 1, true, NX, by omega, by go_num, rfl, rfl, Lib.hid ⟨?_, ?_⟩⟩, by simp [intOf]; omega⟩
                    · rw [HTK.out, HN2.out HS1.out]; exact HT.out
                    · rw [HTK.out]; exact ⟨fun _ => ⟨z, by simp, HS1.out⟩, fun _ => rfl⟩
                · have HS1 : Hid (¬ Stays ws S z) := Lib.hid (fun h => hw0 (HST.out.1 h).1)
                  go_wp2
                  refine ⟨⟨q + 1, true, NX, by omega, by go_num, rfl, rfl, Lib.hid ⟨?_, ?_⟩⟩, by simp [intOf]; omega⟩
                  · rw [HTK.out, HN2.out HS1.out]; exact HT.out
                  · rw [HTK.out]; exact ⟨fun _ => ⟨z, by simp, HS1.out⟩, fun _ => rfl⟩
              · obtain rfl : q = S.length := by omega
                have HT5 := HT.out
                have HM5 := HMB.out
                rw [List.take_length] at HT5 HM5
                replace HT5 := Lib.hid HT5
                replace HM5 := Lib.hid HM5
                obtain ⟨an, cn, hne⟩ := own_shape HT5.out.ox
                rw [List.length_map] at hne
                have HLN := Lib.hid (HLF.out.next HOKW.out)
                clear HT HMB hT
                go_wp2
                refine ⟨⟨nextS ws S S, NX, mb, rfl, rfl, Lib.hid ⟨by rw [hne]; rfl, HLN.out, HT5.out.ox, HT5.out.b, HT5.out.s, fun h => ?_⟩⟩, ?_⟩
                · have hall : ∀ i ∈ S, Stays ws S i := fun i hi => Classical.not_not.1 (fun hn => by
                    have := HM5.out.2 ⟨i, hi, hn⟩
                    rw [h] at this; cases this)
                  rw [nextS_all hall]; exact hall
                · rw [hne]
                  cases mb with
                  | false =>
                    have := nextS_len (ws := ws) (S := S) (T := S)
                    simp [lenV, boolV]; omega
                  | true =>
                    obtain ⟨i, hi, hn⟩ := HM5.out.1 rfl
                    have := nextS_lt (ws := ws) (S := S) hi hn
                    simp [lenV, boolV]; omega

end Go.Proofs.Ythbabhmpkniliaa
